/- The law WireOne returns true, for every argument. No condition beyond what the theorem states. -/
import Derived.Test.YtmfbjmffodnaeaaP3
import Derived.Test.YtmfbjmffodnaeaaW10
import Derived.StillTailTactics
import Derived.Deep.RegionWith
set_option linter.unusedVariables false
namespace Go.Proofs.Ytmfbjmffodnaeaa.Wk
open Go.ChangeShapes Go.WideShapes Go.ChangeAt Go.RowKit M

theorem fcells_get (l : Fs) : ∀ (k : Nat) (h : k < l.length), (fcells l)[k * 2]? = some (.string l[k].1) ∧ (fcells l)[k * 2 + 1]? = some (.string l[k].2) := by
  induction l with
  | nil => intro k h; simp at h
  | cons p l ih =>
    intro k h
    have e : fcells (p :: l) = .string p.1 :: .string p.2 :: fcells l := by simp [fcells]
    rw [e]
    cases k with
    | zero => exact ⟨rfl, rfl⟩
    | succ k =>
      have := ih k (by simpa using h)
      rw [show (k + 1) * 2 = k * 2 + 2 by omega]
      simpa using this
/-- A list of files of the call's own, as the walk reads it. -/
theorem own_files {w : World} {base : Nat} {v : Value} {l : Fs} (h : w.ownsRow base 58 2 v l.length (fcells l)) :
    ∃ (A : Option Addr) (cap : Nat), v = .slice A l.length cap ∧ l.length ≤ maxLen ∧ (0 < l.length → ∃ g, A = some ⟨g, 0, none⟩ ∧ base ≤ g ∧ g < w.heap.size ∧ ∀ (k : Nat) (hk : k < l.length), w.cell? ⟨g, k * 2, none⟩ = some (.string l[k].1) ∧ w.cell? ⟨g, k * 2 + 1, none⟩ = some (.string l[k].2)) := by
  have hcells := fun (g : Nat) (hg : v.ownBlock = some g) => h.cells hg
  rcases h.2 with ⟨hv, h0⟩ | ⟨g, cap, cur, hv, hg, hh, rest⟩
  · exact ⟨none, 0, by rw [hv, h0], by rw [h0]; exact Nat.zero_le _, fun hp => by omega⟩
  · refine ⟨some ⟨g, 0, none⟩, cap, hv, Nat.le_trans rest.1 rest.2.1, fun _ => ⟨g, rfl, hg, (Array.getElem?_eq_some_iff.1 hh).1, fun k hk => ?_⟩⟩
    have hc := hcells g (by rw [hv]; rfl)
    obtain ⟨e1, e2⟩ := fcells_get l k hk
    have a1 := hc _ _ e1
    have a2 := hc _ _ e2
    have hadd : ∀ j, (⟨g, 0, none⟩ : Addr).add j = ⟨g, j, none⟩ := by intro j; unfold Addr.add; split <;> simp_all
    rw [hadd] at a1 a2
    exact ⟨a1, a2⟩

set_option maxHeartbeats 2000000 in
set_option maxRecDepth 100000 in
theorem WireOne_walk (b : ByteArray) (a : Int) (w : World) (w0 : b.size ≤ maxLen) (w1 : (Lit.int .i64 a).wf = true) :
    Calls Try.prog 6 #[.string b, .int .i64 a] w fun e w' => e = .returned (.bool true) ∧ Below w.heap.size w w' := by
  obtain ⟨a1, a2⟩ := bounds_i64 w1
  clear w1
  unfold maxLen at w0
  by_cases hbig : b.size ≤ 33554431
  · clear w0
    have cN : Hid (∀ w : World, Calls Try.prog 19 #[.string b, .int .i64 a] w fun e w' => e = .returned (.tuple #[.string (nT b a), .string (nC b a), .int .i64 (nK b a), .int .i64 (nE b a)]) ∧ Below w.heap.size w w') :=
      Lib.hid (fun w => next_any b a w (by omega) a1 a2)
    have cL : Hid (∀ w : World, Calls Try.prog 21 #[.string b] w fun e w' => ∃ (A : Option Addr) (cap : Nat), e = .returned (.tuple #[.slice A (chs b).1.length cap, .int .i64 (chs b).2.1,   .int .i64 (chs b).2.2]) ∧ Below w.heap.size w w' ∧ (chs b).1.length ≤ maxLen ∧
        (0 < (chs b).1.length → ∃ g, A = some ⟨g, 0, none⟩ ∧ g < w'.heap.size ∧ ∀ (k : Nat) (hk : k < (chs b).1.length), w'.cell? ⟨g, k * 2, none⟩ = some (.string (chs b).1[k].1) ∧ w'.cell? ⟨g, k * 2 + 1, none⟩ = some (.string (chs b).1[k].2))) :=
      Lib.hid (fun w => (chunks_any b w (by omega)).mono fun e w' ⟨v, h1, h2, h3⟩ => by
        obtain ⟨A, cap, rfl, hl, h4⟩ := own_files h2
        exact ⟨A, cap, h1, h3, hl, fun h => by obtain ⟨g, g1, _, g2, g3⟩ := h4 h; exact ⟨g, g1, g2, g3⟩⟩)
    have HO : Hid (((chs b).2.1 = 0 → (∀ p ∈ (chs b).1, chunkE p.1 p.2 = 0) ∧ joinL (chs b).1 = b.data.toList) ∧ (¬ (chs b).2.1 = 0 → (chs b).1 = [])) := Lib.hid (chs_one b)
    generalize (chs b).1 = L at *
    generalize (chs b).2.1 = E at *
    generalize (chs b).2.2 = K0 at *
    by_cases hE : nE b a = 0
    · obtain ⟨p1, p2⟩ := nE_neg b a hE
      obtain ⟨n, rfl⟩ := Int.eq_ofNat_of_zero_le p1
      obtain ⟨o1, o2, o3⟩ := one_form b n hE
      obtain ⟨k1, k2, k3⟩ := next_place b n hE
      have cC : Hid (∀ w : World, Calls Try.prog 15 #[.string (nT b n), .string (nC b n)] w fun e w' => e = .returned (.tuple #[.string (b.extract n (n + 12 + (nC b n).size)), .int .i64 0]) ∧ Below w.heap.size w w') :=
        Lib.hid (fun w => by have := chunk_any (nT b n) (nC b n) w (by unfold maxLen; omega); rw [o1, o2] at this; exact this)
      rw [hE, k1] at cN
      clear hE k1 o1 o2
      generalize nT b n = T at *
      generalize nC b n = C at *
      generalize hm : n + 12 + C.size = m at *
      have hm2 : n < m := by omega
      go_enter Try.func6, Try.ntmps6
      go_wp2_with (first
        | (go_at_call 8; refine (works_any _).mono ?_; rintro e w1 ⟨rfl, b1⟩)
        | (go_at_call 19; refine (cN.out _).mono ?_; rintro e w2 ⟨rfl, b2⟩)
        | (go_at_call 15; refine (cC.out _).mono ?_; rintro e w3 ⟨rfl, b3⟩)
        | (go_at_call 21; refine (cL.out _).mono ?_; rintro e w4 ⟨A, cap, rfl, b4, hLm0, hA⟩))
      have B4 : Below w.heap.size w w4 := by
        have z1 := b1.size; have z2 := b2.size; have z3 := b3.size
        exact b1.trans ((b2.mono (by omega)).trans ((b3.mono (by omega)).trans (b4.mono (by omega))))
      clear b1 b2 b3 b4 cN cC cL hm
      have hLm := hLm0
      unfold maxLen at hLm
      clear hLm0
      go_loopw [14, 15] (fun v i wr => ∃ k : Nat, k ≤ L.length ∧ i = .int .i64 k ∧ v = strL (joinL (L.take k)) ∧ Below w4.heap.size w4 wr)
        (fun _ i _ => L.length - (intOf i).toNat)
      case atStart => exact ⟨0, Nat.zero_le _, rfl, rfl, Below.refl _ _⟩
      case round =>
        obtain ⟨k, hk, rfl, hv, hnx⟩ := hrel
        subst hv
        by_cases hlt : k < L.length
        · have hE0 : E = 0 := by
            rcases Classical.em (E = 0) with h | h
            · exact h
            · rw [HO.out.2 h] at hlt; simp at hlt
          obtain ⟨q1, q2⟩ := HO.out.1 hE0
          obtain ⟨g, rfl, hg, hc⟩ := hA (by omega)
          obtain ⟨c1, c2⟩ := hc k hlt
          have d1 : wr.cell? ⟨g, k * 2, none⟩ = some (.string L[k].1) := (hnx.cell hg).trans c1
          have d2 : wr.cell? ⟨g, k * 2 + 1, none⟩ = some (.string L[k].2) := (hnx.cell hg).trans c2
          clear hc c1 c2 hA
          have hok := q1 L[k] (List.getElem_mem hlt)
          have cK : Hid (∀ w : World, Calls Try.prog 15 #[.string L[k].1, .string L[k].2] w fun e w' => e = .returned (.tuple #[.string ⟨(chunkS L[k].1 L[k].2).data.toList.toArray⟩, .int .i64 0]) ∧ Below w.heap.size w w') :=
            Lib.hid (fun w => by have := chunk_any L[k].1 L[k].2 w (by have := chunkS_ok _ _ hok; unfold maxLen; omega); rw [hok] at this; rw [str_back]; exact this)
          have hcat := cat_run (joinL (L.take k)) (chunkS L[k].1 L[k].2).data.toList (by
            have h1 := joinL_le L (k + 1)
            rw [joinL_take L k hlt, q2, List.length_append, toL_len] at h1
            rw [toL_len] at *; omega)
          have HT := Lib.hid (joinL_take L k hlt)
          clear q1 q2 hok hE0
          generalize L[k].1 = T at *
          generalize L[k].2 = C at *
          go_wp2_with fail
          have hk1 : (k : Int) < (L.length : Int) := by omega
          have hk2 : ¬ (L.length : Int) ≤ (k : Int) := by omega
          go_region_with (first | (go_at_call 15; (with_reducible refine (cK.out _).mono ?_); rintro e w5 ⟨rfl, b5⟩))
          all_goals
            go_wp2
            go_roundw
            case rel => exact ⟨k + 1, by omega, by go_num, by rw [HT.out], hnx.drew.trans (b5.mono (by have := hnx.size; simp; omega))⟩
            case measure => simp [intOf]; omega
        · have hkL : k = L.length := by omega
          have HB := Lib.hid (B4.trans (hnx.mono B4.size))
          by_cases hE0 : E = 0
          · have hfin : strL (joinL (L.take k)) = .string b := by
              rw [hkL, List.take_length, (HO.out.1 hE0).2]; unfold strL; rw [str_back]
            rw [hfin]
            subst hE0
            clear hfin hkL
            go_wp2
            go_ret
            exact ⟨rfl, HB.out⟩
          · have hL0 := HO.out.2 hE0
            have hL1 : L.length = 0 := by rw [hL0]; rfl
            have hEb : (E == 0) = false := beq_eq_false_iff_ne.2 hE0
            have hEc : (E != 0) = true := bne_iff_ne.2 hE0
            clear hL0 hkL
            go_wp2
            go_ret
            exact ⟨rfl, HB.out⟩
    · generalize nT b a = T at *
      generalize nC b a = C at *
      generalize nK b a = K at *
      generalize nE b a = E1 at *
      have hEb : (E1 == 0) = false := beq_eq_false_iff_ne.2 hE
      go_enter Try.func6, Try.ntmps6
      go_wp2_with (first
        | (go_at_call 8; refine (works_any _).mono ?_; rintro e w1 ⟨rfl, b1⟩)
        | (go_at_call 19; refine (cN.out _).mono ?_; rintro e w2 ⟨rfl, b2⟩)
        | (go_at_call 21; refine (cL.out _).mono ?_; rintro e w4 ⟨A, cap, rfl, b4, hLm0, hA⟩))
      have B4 : Below w.heap.size w w4 := by
        have z1 := b1.size; have z2 := b2.size
        exact b1.trans ((b2.mono (by omega)).trans (b4.mono (by omega)))
      clear b1 b2 b4 cN cL hEb hE
      have hLm := hLm0
      unfold maxLen at hLm
      clear hLm0
      go_loopw [14, 15] (fun v i wr => ∃ k : Nat, k ≤ L.length ∧ i = .int .i64 k ∧ v = strL (joinL (L.take k)) ∧ Below w4.heap.size w4 wr)
        (fun _ i _ => L.length - (intOf i).toNat)
      case atStart => exact ⟨0, Nat.zero_le _, rfl, rfl, Below.refl _ _⟩
      case round =>
        obtain ⟨k, hk, rfl, hv, hnx⟩ := hrel
        subst hv
        by_cases hlt : k < L.length
        · have hE0 : E = 0 := by
            rcases Classical.em (E = 0) with h | h
            · exact h
            · rw [HO.out.2 h] at hlt; simp at hlt
          obtain ⟨q1, q2⟩ := HO.out.1 hE0
          obtain ⟨g, rfl, hg, hc⟩ := hA (by omega)
          obtain ⟨c1, c2⟩ := hc k hlt
          have d1 : wr.cell? ⟨g, k * 2, none⟩ = some (.string L[k].1) := (hnx.cell hg).trans c1
          have d2 : wr.cell? ⟨g, k * 2 + 1, none⟩ = some (.string L[k].2) := (hnx.cell hg).trans c2
          clear hc c1 c2 hA
          have hok := q1 L[k] (List.getElem_mem hlt)
          have cK : Hid (∀ w : World, Calls Try.prog 15 #[.string L[k].1, .string L[k].2] w fun e w' => e = .returned (.tuple #[.string ⟨(chunkS L[k].1 L[k].2).data.toList.toArray⟩, .int .i64 0]) ∧ Below w.heap.size w w') :=
            Lib.hid (fun w => by have := chunk_any L[k].1 L[k].2 w (by have := chunkS_ok _ _ hok; unfold maxLen; omega); rw [hok] at this; rw [str_back]; exact this)
          have hcat := cat_run (joinL (L.take k)) (chunkS L[k].1 L[k].2).data.toList (by
            have h1 := joinL_le L (k + 1)
            rw [joinL_take L k hlt, q2, List.length_append, toL_len] at h1
            rw [toL_len] at *; omega)
          have HT := Lib.hid (joinL_take L k hlt)
          clear q1 q2 hok hE0
          generalize L[k].1 = T at *
          generalize L[k].2 = C at *
          go_wp2_with fail
          have hk1 : (k : Int) < (L.length : Int) := by omega
          have hk2 : ¬ (L.length : Int) ≤ (k : Int) := by omega
          go_region_with (first | (go_at_call 15; (with_reducible refine (cK.out _).mono ?_); rintro e w5 ⟨rfl, b5⟩))
          all_goals
            go_wp2
            go_roundw
            case rel => exact ⟨k + 1, by omega, by go_num, by rw [HT.out], hnx.drew.trans (b5.mono (by have := hnx.size; simp; omega))⟩
            case measure => simp [intOf]; omega
        · have hkL : k = L.length := by omega
          have HB := Lib.hid (B4.trans (hnx.mono B4.size))
          by_cases hE0 : E = 0
          · have hfin : strL (joinL (L.take k)) = .string b := by
              rw [hkL, List.take_length, (HO.out.1 hE0).2]; unfold strL; rw [str_back]
            rw [hfin]
            subst hE0
            clear hfin hkL
            go_wp2
            go_ret
            exact ⟨rfl, HB.out⟩
          · have hL0 := HO.out.2 hE0
            have hL1 : L.length = 0 := by rw [hL0]; rfl
            have hEb : (E == 0) = false := beq_eq_false_iff_ne.2 hE0
            have hEc : (E != 0) = true := bne_iff_ne.2 hE0
            clear hL0 hkL
            go_wp2
            go_ret
            exact ⟨rfl, HB.out⟩
  · go_enter Try.func6, Try.ntmps6
    go_wp2_with (go_at_call 8; refine (works_any _).mono ?_; rintro e w1 ⟨rfl, b1⟩)
    all_goals first
      | (exfalso; omega)
      | (go_ret; exact ⟨rfl, b1⟩)
end Go.Proofs.Ytmfbjmffodnaeaa.Wk
