/- An object's oops, those that may be changed, its bytes; Head, Oops, Bytes. -/
import Derived.Test.YtklbgccfcfldaaaB3
set_option linter.unusedVariables false
namespace Go.Proofs.Ytklbgccfcfldaaa.Wk
open Go.ChangeShapes Go.WideShapes Go.ChangeAt Go.RowKit M

theorem fmt_of {s : Hp} (h : Wf s) {a : Nat} (ha : s.st a = true) : fmt s a = 1 ∨ fmt s a = 2 ∨ fmt s a = 3 ∨ fmt s a = 4 ∨ fmt s a = 5 ∨ fmt s a = 6 := by
  have h1 := ((unB_iff _ _).1 (h.st a ha).2.2).2.2
  have h2 := (hdB_iff _ _ _ _ _ _).1 h1
  unfold fmt; omega

set_option maxHeartbeats 2000000 in
set_option maxRecDepth 100000 in
theorem oops_any (own : Own) (w : World) (p : Nat) (s : Hp) (g : Gh) (h : Rep own w p s g) (hw : Wf s) (a : Nat) (ha : s.st a = true) :
    Calls Try.prog 25 #[objV g (s.mem a) a (sl s a)] w fun e w' => e = .returned (.slice (slA g a (sl s a)) (nOops s a) (nOops s a)) ∧ Below w.heap.size w w' := by
  have hbd := hw.st a ha
  have hle := nOops_le hw ha
  have hk64 := (wf_hd hw ha).2.2.2
  have hf := fmt_of hw ha
  have hno : nOops s a = if fmt s a = 1 ∨ fmt s a = 2 ∨ fmt s a = 3 then sl s a else if fmt s a = 6 then 1 + M.lits s a else 0 := rfl
  have hlit := hw.lit a ha
  obtain ⟨k, hk⟩ : ∃ k, k = sl s a := ⟨_, rfl⟩
  obtain ⟨n, hn⟩ : ∃ n, n = nOops s a := ⟨_, rfl⟩
  by_cases h6 : fmt s a = 6
  · obtain ⟨l1, l2, l3, l4⟩ := hlit h6
    have hn6 : n = 1 + M.lits s a := by rw [hn, hno, h6]; simp
    have hc := (h.below ((Below.refl _ _).alloc (Nat.le_refl _) (.cells #[.int .i64 a, .int .i64 (uC (s.mem a)), .int .u8 (uF (s.mem a)), .int .i64 (uS (s.mem a)), .int .i64 (uH (s.mem a)), .int .i64 (uA (s.mem a)), .int .i64 k, .bool (uM (s.mem a)), .bool (uN (s.mem a)), .slice (some ⟨g.wb, a + 2, none⟩) k k] 83)) (Nat.le_refl _)).word (a + 2) (by omega)
    have hm := h.w0.mem (a + 2)
    have hS := fun W => smallOf_any (s.mem (a + 2)) W hm.1 hm.2
    have hv : smV (s.mem (a + 2)) = (M.lits s a : Int) := by unfold M.lits; omega
    have hsa : slA g a k = some ⟨g.wb, a + 2, none⟩ := by unfold slA; rw [if_neg (by omega)]
    rw [hv, l1] at hS
    have hF : uF (s.mem a) = 6 := h6
    rw [← hk, ← hn]
    simp only [objV]
    rw [hsa, hF]
    rw [hF] at hc
    have i1 : (0 : Int) < k := by omega
    have i2 : (1 : Int) + (M.lits s a : Int) ≤ k := by omega
    have i3 : (0 : Int) ≤ 1 + (M.lits s a : Int) := by omega
    have i4 : ((1 : Int) + (M.lits s a : Int)).toNat = n := by omega
    have i5 : IntKind.i64.wrap (1 + (M.lits s a : Int)) = 1 + (M.lits s a : Int) := by rw [IntKind.wrap_i64]; omega
    have i6 : ¬ k = 0 := by omega
    have HS := Lib.hid hS
    clear h hbd hle hlit hno hk64 hf l1 l2 l3 l4 hn hk hv hS hm h6 hF hsa
    generalize s.mem a = x at *
    generalize s.mem (a + 2) = y at *
    generalize M.lits s a = l at *
    subst hn6
    clear i4
    have i4 : ((1 : Int) + (l : Int)).toNat = 1 + l := by omega
    have i7 : 1 + l ≤ k := by omega
    go_enter Try.func25, Try.ntmps25
    go_wp2_with (go_at_call 51; refine (HS.out _).mono ?_; rintro e w' ⟨rfl, rfl⟩)
    go_ret
    exact ⟨rfl, by go_grown⟩
  · have hfx : uF (s.mem a) = fmt s a := rfl
    obtain ⟨ad, had⟩ : ∃ ad, slA g a k = some ad := by unfold slA; split <;> exact ⟨_, rfl⟩
    rw [← hk, ← hn]
    simp only [objV]
    rw [had, hfx]
    have i1 : (n : Int) ≤ k := by omega
    have i2 : n ≤ k := by omega
    clear h hbd hle hlit hk64 had hfx ha hw
    rw [← hk, ← hn, if_neg h6] at hno
    clear hk hn
    generalize s.mem a = x at *
    generalize fmt s a = f at *
    rcases hf with rfl | rfl | rfl | rfl | rfl | rfl
    all_goals first
      | exact absurd rfl h6
      | (have hno' := hno
         simp at hno'
         subst hno'
         clear hno h6 i1 i2
         go_enter Try.func25, Try.ntmps25
         go_wp2
         go_ret
         exact ⟨rfl, by go_grown⟩)

set_option maxHeartbeats 2000000 in
set_option maxRecDepth 100000 in
theorem oops_0 (w : World) : Calls Try.prog 25 #[obj0] w fun e w' => e = .returned (.slice none 0 0) ∧ Below w.heap.size w w' := by
  go_enter Try.func25, Try.ntmps25
  go_wp2
  go_ret
  exact ⟨rfl, by go_grown⟩

end Go.Proofs.Ytklbgccfcfldaaa.Wk
