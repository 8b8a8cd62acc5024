/- What Next answers (the program's and the document's): the chunk at a place, or what is wrong there. -/
import Derived.Test.YtmfbjmffodnaeaaW6
set_option linter.unusedVariables false
namespace Go.Proofs.Ytmfbjmffodnaeaa.Wk
open Go.ChangeShapes Go.WideShapes Go.ChangeAt Go.RowKit M

/-- What lies from a place on. -/
def nR (b : ByteArray) (a : Int) : ByteArray := b.extract a.toNat b.size
def nE (b : ByteArray) (a : Int) : Int := if lackE b.size a 8 = 0 then chE (nR b a) else lackE b.size a 8
def nT (b : ByteArray) (a : Int) : ByteArray := if lackE b.size a 8 = 0 then chT (nR b a) else ⟨#[]⟩
def nC (b : ByteArray) (a : Int) : ByteArray := if lackE b.size a 8 = 0 then chC (nR b a) else ⟨#[]⟩
def nK (b : ByteArray) (a : Int) : Int := if nE b a = 0 then a + 12 + (nC b a).size else a
def nV (b : ByteArray) (a : Int) : Value := .tuple #[.string (nT b a), .string (nC b a), .int .i64 (nK b a), .int .i64 (nE b a)]
theorem nV_lack (b : ByteArray) (a : Int) (e : Int) (h : lackE b.size a 8 = e) (h0 : e ≠ 0) : nV b a = .tuple #[.string ⟨#[]⟩, .string ⟨#[]⟩, .int .i64 a, .int .i64 e] := by
  have hE : nE b a = e := by unfold nE; rw [h, if_neg h0]
  unfold nV nT nC nK; rw [hE, h, if_neg h0, if_neg h0, if_neg h0]
theorem nV_ch (b : ByteArray) (a : Int) (h : lackE b.size a 8 = 0) (e : Int) (he : chE (nR b a) = e) (h0 : e ≠ 0) : nV b a = .tuple #[.string ⟨#[]⟩, .string ⟨#[]⟩, .int .i64 a, .int .i64 e] := by
  have hE : nE b a = e := by unfold nE; rw [h, if_pos rfl, he]
  unfold nV nT nC nK chT chC; rw [hE, h, if_pos rfl, if_pos rfl, if_neg h0, he, if_neg h0, if_neg h0]
theorem nV_ok (b : ByteArray) (a : Int) (h : lackE b.size a 8 = 0) (he : chE (nR b a) = 0) : nV b a = .tuple #[.string ((nR b a).extract 0 4), .string (cC (nR b a)), .int .i64 (a + 12 + (cC (nR b a)).size), .int .i64 0] := by
  have hE : nE b a = 0 := by unfold nE; rw [h, if_pos rfl, he]
  unfold nV nT nC nK nC chT chC; rw [hE, h, if_pos rfl, if_pos rfl, if_pos rfl, he, if_pos rfl, if_pos rfl]
theorem nE_ok (b : ByteArray) (a : Int) (h : nE b a = 0) : lackE b.size a 8 = 0 ∧ chE (nR b a) = 0 := by
  unfold nE at h; by_cases hl : lackE b.size a 8 = 0
  · rw [if_pos hl] at h; exact ⟨hl, h⟩
  · rw [if_neg hl] at h; exact absurd h hl

theorem clone_any (s : ByteArray) (w : World) (hs : s.size ≤ 1073741824) :
    Calls Try.prog 39 #[.string s] w fun e w' => e = .returned (.string s) ∧ Below w.heap.size w w' := by
  go_enter Try.func39, Try.ntmps39
  go_wp2_with (go_at_call 52; refine (Sh.Clone s _ (by omega)).mono ?_; rintro e w1 ⟨rfl, b1⟩)
  go_ret
  exact ⟨rfl, b1⟩

theorem chE_size (r : ByteArray) (h : chE r = 0) : tagB (r.extract 0 4) = true ∧ cL r ≤ 16777216 ∧ cL r + 12 ≤ r.size ∧ cS r = sum2 (r.extract 0 4) (cC r) := by
  unfold chE at h
  cases ht : tagB (r.extract 0 4)
  · rw [ht] at h; simp at h
  · rw [ht, if_pos rfl] at h
    refine ⟨rfl, ?_⟩
    by_cases h2 : cL r ≤ 16777216
    · rw [if_pos h2] at h
      by_cases h3 : cL r + 12 ≤ r.size
      · rw [if_pos h3] at h
        by_cases h4 : cS r = sum2 (r.extract 0 4) (cC r)
        · exact ⟨h2, h3, h4⟩
        · rw [if_neg h4] at h; simp at h
      · rw [if_neg h3] at h; simp at h
    · rw [if_neg h2] at h; simp at h
theorem cC_size (r : ByteArray) (h : cL r + 12 ≤ r.size) : (cC r).size = cL r := by
  have s1 := size_ext r 8 r.size (by omega) (by omega)
  unfold cC cR
  rw [size_ext _ 0 (cL r) (by omega) (by omega)]; omega

set_option maxHeartbeats 1000000 in
set_option maxRecDepth 100000 in
theorem next_any (b : ByteArray) (a : Int) (w : World) (hb : b.size ≤ 1073741824) (ha : -9223372036854775808 ≤ a) (ha2 : a ≤ 9223372036854775807) :
    Calls Try.prog 19 #[.string b, .int .i64 a] w fun e w' => e = .returned (nV b a) ∧ Below w.heap.size w w' := by
  by_cases hl : lackE b.size a 8 = 0
  · have h0 : 0 ≤ a ∧ a + 8 ≤ b.size := by unfold lackE at hl; split at hl <;> (try split at hl) <;> omega
    obtain ⟨n, rfl⟩ := Int.eq_ofNat_of_zero_le h0.1
    have op : ∀ w : World, Calls Try.prog 38 #[.string (b.extract n b.size)] w fun e w' => e = .returned (.tuple #[.string (chT (nR b n)), .string (chC (nR b n)), .int .i64 (chE (nR b n))]) ∧ Below w.heap.size w w' :=
      fun w => open_any (nR b n) w (by unfold nR; rw [size_ext _ _ _ (by simp; omega) (by omega)]; simp; omega) (by unfold nR; rw [size_ext _ _ _ (by simp; omega) (by omega)]; omega)
    by_cases hE : chE (nR b n) = 0
    · have hT : chT (nR b n) = (nR b n).extract 0 4 := by unfold chT; rw [if_pos hE]
      have hC : chC (nR b n) = cC (nR b n) := by unfold chC; rw [if_pos hE]
      have hz := chE_size _ hE
      have hcs := cC_size _ hz.2.2.1
      have s4 : ((nR b n).extract 0 4).size = 4 := tagB_size _ hz.1
      have HV : Hid (∀ _ : Unit, nV b n = _) := Lib.hid (fun _ => nV_ok b n hl hE)
      have hcm : (cC (nR b n)).size ≤ 16777216 := by omega
      rw [hE, hT, hC] at op
      have HOP := Lib.hid op
      clear op hz hcs hT hC hE
      generalize (nR b n).extract 0 4 = T at *
      generalize cC (nR b n) = C at *
      go_enter Try.func19, Try.ntmps19
      go_wp2_with (first
        | (go_at_call 35; refine (lacks_any b _ 8 _ (by unfold maxLen; omega) (by omega) (by omega) (by omega) (by omega)).mono ?_; rintro e w' ⟨rfl, rfl⟩)
        | (go_at_call 38; refine (HOP.out _).mono ?_; rintro e w1 ⟨rfl, b1⟩)
        | (go_at_call 39; fail))
      refine (clone_any _ _ (by omega)).mono ?_
      rintro e w2 ⟨rfl, b2⟩
      go_wp2_with fail
      refine (clone_any _ _ (by omega)).mono ?_
      rintro e w3 ⟨rfl, b3⟩
      go_wp2
      refine bodyPost_ret (v := .tuple #[.string T, .string C, .int .i64 ((n : Int) + 12 + C.size), .int .i64 0]) (by simp [results, Try.results19, go_sem]) rfl ⟨ret_v (HV.out ()).symm, ?_⟩
      exact b1.trans ((b2.mono b1.size).trans (b3.mono (Nat.le_trans b1.size b2.size)))
    · have hT : chT (nR b n) = ⟨#[]⟩ := by unfold chT; rw [if_neg hE]
      have hC : chC (nR b n) = ⟨#[]⟩ := by unfold chC; rw [if_neg hE]
      have HV : Hid (∀ _ : Unit, nV b n = _) := Lib.hid (fun _ => nV_ch b n hl _ rfl hE)
      rw [hT, hC] at op
      have HOP := Lib.hid op
      clear op hT hC
      generalize chE (nR b n) = E at *
      go_enter Try.func19, Try.ntmps19
      go_wp2_with (first
        | (go_at_call 35; refine (lacks_any b _ 8 _ (by unfold maxLen; omega) (by omega) (by omega) (by omega) (by omega)).mono ?_; rintro e w' ⟨rfl, rfl⟩)
        | (go_at_call 38; refine (HOP.out _).mono ?_; rintro e w1 ⟨rfl, b1⟩))
      refine bodyPost_ret (v := .tuple #[.string ⟨#[]⟩, .string ⟨#[]⟩, .int .i64 (n : Int), .int .i64 E]) (by simp [results, Try.results19, go_sem]) rfl ⟨ret_v (HV.out ()).symm, b1⟩
  · have HV : Hid (∀ _ : Unit, nV b a = _) := Lib.hid (fun _ => nV_lack b a _ rfl hl)
    go_enter Try.func19, Try.ntmps19
    go_wp2_with (first
      | (go_at_call 35; refine (lacks_any b _ 8 _ (by unfold maxLen; omega) (by omega) (by omega) (by omega) (by omega)).mono ?_; rintro e w' ⟨rfl, rfl⟩))
    refine bodyPost_ret (v := .tuple #[.string ⟨#[]⟩, .string ⟨#[]⟩, .int .i64 a, .int .i64 (lackE b.size a 8)]) (by simp [results, Try.results19, go_sem]) rfl ⟨ret_v (HV.out ()).symm, Below.refl _ _⟩
end Go.Proofs.Ytmfbjmffodnaeaa.Wk
