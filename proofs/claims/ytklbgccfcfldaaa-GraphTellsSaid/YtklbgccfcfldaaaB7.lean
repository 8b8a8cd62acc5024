/- The bytes of an object. -/
import Derived.Test.YtklbgccfcfldaaaB6
set_option linter.unusedVariables false
namespace Go.Proofs.Ytklbgccfcfldaaa.Wk
open Go.ChangeShapes Go.WideShapes Go.ChangeAt Go.RowKit M

abbrev byteA (g : Gh) (a k n : Nat) : Option Addr := if k - n = 0 then slA g a k else some ⟨g.wb, a + 2 + n, none⟩
theorem keep10 {w W X : World} {e : TypeId} {a0 a1 a2 a3 a4 a5 a6 a7 a8 a9 : Value} (hW : W = w.alloc (.cells #[a0, a1, a2, a3, a4, a5, a6, a7, a8, a9] e)) (hb : Below W.heap.size W X) :
    X.cell? ⟨w.heap.size, 0, none⟩ = some a0 ∧ X.cell? ⟨w.heap.size, 1, none⟩ = some a1 ∧ X.cell? ⟨w.heap.size, 2, none⟩ = some a2 ∧ X.cell? ⟨w.heap.size, 3, none⟩ = some a3 ∧ X.cell? ⟨w.heap.size, 4, none⟩ = some a4 ∧ X.cell? ⟨w.heap.size, 5, none⟩ = some a5 ∧ X.cell? ⟨w.heap.size, 6, none⟩ = some a6 ∧ X.cell? ⟨w.heap.size, 7, none⟩ = some a7 ∧ X.cell? ⟨w.heap.size, 8, none⟩ = some a8 ∧ X.cell? ⟨w.heap.size, 9, none⟩ = some a9 ∧ Below W.heap.size W X := by
  obtain ⟨z0, z1, z2, z3, z4, z5, z6, z7, z8, z9, zf⟩ := box10 (keep_box hW hb)
  exact ⟨z0, z1, z2, z3, z4, z5, z6, z7, z8, z9, hb⟩

set_option maxHeartbeats 4000000 in
set_option maxRecDepth 100000 in
theorem bytes_y (own : Own) (w : World) (p : Nat) (s : Hp) (g : Gh) (h : Rep own w p s g) (hw : Wf s) (a : Nat) (ha : s.st a = true) (hB : hasB s a = true) :
    Calls Try.prog 65 #[objV g (s.mem a) a (sl s a)] w fun e w' => e = .returned (.tuple #[.slice (byteA g a (sl s a) (nOops s a)) (sl s a - nOops s a) (sl s a - nOops s a), .int .i64 (nBytes s a)]) ∧ Below w.heap.size w w' := by
  have hbd := hw.st a ha
  have hle := nOops_le hw ha
  have hk64 := (wf_hd hw ha).2.2.2
  have hlit := hw.lit a ha
  have hv := (hdB_iff _ _ _ _ _ _).1 ((unB_iff _ _).1 hbd.2.2).2.2
  have hsl := (wf_hd hw ha).2.2.1
  have hf : fmt s a = 5 ∨ fmt s a = 6 := by unfold hasB at hB; simpa using hB
  have hnb : (nBytes s a : Int) = ((sl s a - nOops s a : Nat) : Int) * 8 - uS (s.mem a) := by
    have hsp : (spr s a : Int) = uS (s.mem a) := by unfold spr; omega
    have : spr s a ≤ (sl s a - nOops s a) * 8 := by
      rcases hf with h5 | h6
      · have e : nOops s a = 0 := by unfold nOops; rw [h5]; simp
        unfold fmt at h5
        omega
      · have e : nOops s a = 1 + M.lits s a := by unfold nOops; rw [h6]; simp
        have := hlit h6
        omega
    unfold nBytes; rw [hB]; simp only [if_true]; omega
  obtain ⟨ad, had⟩ : ∃ ad, slA g a (sl s a) = some ad ∧ (sl s a - nOops s a ≠ 0 → ad = ⟨g.wb, a + 2, none⟩) := by
    unfold slA; split
    · exact ⟨_, rfl, fun q => by omega⟩
    · exact ⟨_, rfl, fun _ => rfl⟩
  have hba : byteA g a (sl s a) (nOops s a) = if sl s a - nOops s a = 0 then some ad else some (ad.add (nOops s a)) := by
    unfold byteA
    split
    · exact had.1
    · rename_i q
      rw [had.2 q]
      unfold Addr.add
      split
      · rename_i q2; rw [q2]
      · rfl
  obtain ⟨W, hW⟩ : ∃ W, W = w.alloc (.cells #[.int .i64 a, .int .i64 (uC (s.mem a)), .int .u8 (uF (s.mem a)), .int .i64 (uS (s.mem a)), .int .i64 (uH (s.mem a)), .int .i64 (uA (s.mem a)), .int .i64 (sl s a), .bool (uM (s.mem a)), .bool (uN (s.mem a)), .slice (some ad) (sl s a) (sl s a)] 83) := ⟨_, rfl⟩
  have hBW : Below w.heap.size w W := by rw [hW]; exact (Below.refl _ _).alloc (Nat.le_refl _) _
  have HO := Lib.hid (fun X (b : Below W.heap.size W X) => oops_any own X p s g ((h.below hBW (Nat.le_refl _)).below b (Nat.le_refl _)) hw a ha)
  simp only [objV] at HO ⊢
  rw [had.1] at HO ⊢
  rw [hba, hnb]
  have hF : uF (s.mem a) = fmt s a := rfl
  have hsp0 : 0 ≤ uS (s.mem a) := by omega
  have hsp7 : uS (s.mem a) ≤ 7 := by omega
  rw [hF] at HO hW ⊢
  clear h hw hbd hlit hv hsl hnb had hba hF ha
  generalize nOops s a = n at *
  generalize sl s a = k at *
  generalize uS (s.mem a) = sp at *
  generalize s.mem a = x at *
  generalize fmt s a = f at *
  have i1 : (n : Int) ≤ k := by omega
  have i2 : (0 : Int) ≤ ((k - n : Nat) : Int) * 8 - sp ∨ True := .inr trivial
  have HW := Lib.hid hW
  obtain ⟨sb, hsb⟩ : ∃ sb, sb = (if k - n = 0 then some ad else some (ad.add n)) := ⟨_, rfl⟩
  have HSB : Hid ((if k = n then some ad else some (ad.add n)) = sb) := Lib.hid (by
    rw [hsb]
    by_cases q : k = n
    · rw [if_pos q, if_pos (by omega)]
    · rw [if_neg q, if_neg (by omega)])
  rw [← hsb]
  clear hsb
  have ht : (f == 5) = true ∨ ((f == 5) = false ∧ (f == 6) = true) := by rcases hf with rfl | rfl <;> simp
  clear hf
  rcases ht with t1 | ⟨t1, t2⟩
  all_goals
    go_enter Try.func65, Try.ntmps65
    go_wp2
    rw [← hW]
    clear hW
    go_region_held3 (fun X => X.cell? ⟨w.heap.size, 0, none⟩ = some (.int .i64 a) ∧ X.cell? ⟨w.heap.size, 1, none⟩ = some (.int .i64 (uC x)) ∧ X.cell? ⟨w.heap.size, 2, none⟩ = some (.int .u8 f) ∧ X.cell? ⟨w.heap.size, 3, none⟩ = some (.int .i64 sp) ∧ X.cell? ⟨w.heap.size, 4, none⟩ = some (.int .i64 (uH x)) ∧ X.cell? ⟨w.heap.size, 5, none⟩ = some (.int .i64 (uA x)) ∧ X.cell? ⟨w.heap.size, 6, none⟩ = some (.int .i64 k) ∧ X.cell? ⟨w.heap.size, 7, none⟩ = some (.bool (uM x)) ∧ X.cell? ⟨w.heap.size, 8, none⟩ = some (.bool (uN x)) ∧ X.cell? ⟨w.heap.size, 9, none⟩ = some (.slice (some ad) k k) ∧ Below W.heap.size W X)
      (first
        | with_reducible exact keep10 HW.out ((Below.refl _ _).drew)
        | with_reducible exact keep10 HW.out B1.out)
      (first | (go_at_call 25; refine (HO.out _ ((Below.refl _ _).drew)).mono ?_; rintro e w1 ⟨rfl, b1⟩; have B1 : Hid (Below W.heap.size W w1) := Lib.hid (((Below.refl _ _).drew).trans b1); clear b1))
    obtain ⟨z0, z1, z2, z3, z4, z5, z6, z7, z8, z9, zf⟩ := box10 (keep_box HW.out B1.out)
    rw [HSB.out]
    clear HSB
    have j1 : IntKind.i64.wrap (((k - n : Nat) : Int) * 8) = ((k - n : Nat) : Int) * 8 := by rw [IntKind.wrap_i64]; omega
    have j2 : IntKind.i64.wrap (((k - n : Nat) : Int) * 8 - sp) = ((k - n : Nat) : Int) * 8 - sp := by rw [IntKind.wrap_i64]; omega
    go_wp2
    go_quiet (fail)
    go_wp2
    go_ret2
    exact ⟨rfl, (below_new HW.out B1.out).trans (Joins.below_draws _ _ _)⟩

set_option maxHeartbeats 2000000 in
set_option maxRecDepth 100000 in
theorem bytes_n (own : Own) (w : World) (p : Nat) (s : Hp) (g : Gh) (h : Rep own w p s g) (hw : Wf s) (a : Nat) (ha : s.st a = true) (hB : hasB s a = false) :
    Calls Try.prog 65 #[objV g (s.mem a) a (sl s a)] w fun e w' => e = .returned (.tuple #[.slice none 0 0, .int .i64 (nBytes s a)]) ∧ Below w.heap.size w w' := by
  have hnb : nBytes s a = 0 := by unfold nBytes; rw [hB]; rfl
  have hf : (fmt s a == 5) = false ∧ (fmt s a == 6) = false := by unfold hasB at hB; simp at hB ⊢; omega
  rw [hnb]
  obtain ⟨t1, t2⟩ := hf
  have hF : uF (s.mem a) = fmt s a := rfl
  simp only [objV]
  obtain ⟨sa, hsa⟩ : ∃ sa, sa = slA g a (sl s a) := ⟨_, rfl⟩
  rw [← hsa, hF]
  clear h hw ha hB hnb hF hsa
  generalize s.mem a = x at *
  generalize fmt s a = f at *
  generalize sl s a = k at *
  go_enter Try.func65, Try.ntmps65
  go_wp2
  go_ret2
  exact ⟨rfl, by go_grown⟩
end Go.Proofs.Ytklbgccfcfldaaa.Wk
