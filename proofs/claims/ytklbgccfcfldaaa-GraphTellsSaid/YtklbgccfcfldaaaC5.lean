/- changeable; address; Note and noteReference where nothing is to be noted. -/
import Derived.Test.YtklbgccfcfldaaaC4
set_option linter.unusedVariables false
namespace Go.Proofs.Ytklbgccfcfldaaa.Wk
open Go.ChangeShapes Go.WideShapes Go.ChangeAt Go.RowKit M

/-- Where the oops that may be changed begin. -/
abbrev chA (g : Gh) (s : Hp) (a : Nat) : Option Addr := if nOops s a - chg s a = 0 then slA g a (sl s a) else some ⟨g.wb, a + 2 + chg s a, none⟩
theorem chg_le (s : Hp) (a : Nat) : chg s a ≤ nOops s a := by
  unfold chg nOops
  split
  · rename_i h; rw [h]; simp
  · omega

set_option maxHeartbeats 2000000 in
set_option maxRecDepth 100000 in
theorem changeable_any (own : Own) (w : World) (p : Nat) (s : Hp) (g : Gh) (h : Rep own w p s g) (hw : Wf s) (a : Nat) (ha : s.st a = true) :
    Calls Try.prog 46 #[objV g (s.mem a) a (sl s a)] w fun e w' => e = .returned (.slice (chA g s a) (nOops s a - chg s a) (nOops s a - chg s a)) ∧ Below w.heap.size w w' := by
  obtain ⟨W, hW⟩ : ∃ W, W = w.alloc (.cells #[.int .i64 a, .int .i64 (uC (s.mem a)), .int .u8 (uF (s.mem a)), .int .i64 (uS (s.mem a)), .int .i64 (uH (s.mem a)), .int .i64 (uA (s.mem a)), .int .i64 (sl s a), .bool (uM (s.mem a)), .bool (uN (s.mem a)), .slice (slA g a (sl s a)) (sl s a) (sl s a)] 83) := ⟨_, rfl⟩
  have hB : Below w.heap.size w W := by rw [hW]; exact (Below.refl _ _).alloc (Nat.le_refl _) _
  have HO := Lib.hid (oops_any own W p s g (h.below hB (Nat.le_refl _)) hw a ha)
  have hle := nOops_le hw ha
  have hF : uF (s.mem a) = fmt s a := rfl
  have hcg : chg s a = if fmt s a = 6 then 1 else 0 := rfl
  have hno : fmt s a = 6 → nOops s a = 1 + M.lits s a := fun e => by unfold nOops; rw [e]; simp
  have hsl : sl s a ≠ 0 → slA g a (sl s a) = some ⟨g.wb, a + 2, none⟩ := fun q => by unfold slA; rw [if_neg q]
  have hno5 : ¬ fmt s a = 6 → nOops s a = 0 ∨ nOops s a = sl s a := fun e => by
    unfold nOops
    split
    · exact .inr rfl
    · exact .inl rfl
  have hcA : chA g s a = if nOops s a - chg s a = 0 then slA g a (sl s a) else some ⟨g.wb, a + 2 + chg s a, none⟩ := rfl
  simp only [objV] at HO ⊢
  have HW := Lib.hid hW
  by_cases h6 : fmt s a = 6
  · rw [if_pos h6] at hcg
    have hn6 := hno h6
    have hq := hsl (by omega)
    rw [hq] at HO hW HW hcA ⊢
    rw [hcA, hcg, hn6]
    rw [hn6] at HO
    rw [hF, h6] at HO hW HW ⊢
    clear h hw hB hle hcg hno hsl hno5 hcA hn6 hq hF h6 ha
    generalize M.lits s a = l at *
    generalize s.mem a = x at *
    generalize sl s a = k at *
    have e1 : 1 + l - 1 = l := by omega
    rw [e1]
    go_enter Try.func46, Try.ntmps46
    go_wp2_with (go_at_call 25; rw [← hW]; refine HO.out.mono ?_; rintro e w1 ⟨rfl, b1⟩; have B1 := Lib.hid b1; clear b1 hW; obtain ⟨z0, z1, z2, z3, z4, z5, z6, z7, z8, z9, zf⟩ := box10 (keep_box HW.out B1.out))
    all_goals
      go_ret
      exact ⟨rfl, below_new HW.out B1.out⟩
  · rw [if_neg h6] at hcg
    have t6 : (fmt s a == 6) = false := by simp [h6]
    have hcA' : chA g s a = slA g a (sl s a) := by
      rw [hcA, hcg]
      split
      · rfl
      · rename_i q
        rcases hno5 h6 with e | e
        · omega
        · rw [hsl (by omega)]
    rw [hcA', hcg]
    rw [hF] at HO hW HW ⊢
    clear h hw hB hle hcg hno hsl hno5 hcA hcA' hF h6 ha
    generalize fmt s a = f at *
    generalize s.mem a = x at *
    generalize nOops s a = n at *
    obtain ⟨sa, hsa⟩ : ∃ sa, sa = slA g a (sl s a) := ⟨_, rfl⟩
    rw [← hsa] at HO hW HW ⊢
    clear hsa
    generalize sl s a = k at *
    go_enter Try.func46, Try.ntmps46
    go_wp2_with (go_at_call 25; rw [← hW]; refine HO.out.mono ?_; rintro e w1 ⟨rfl, b1⟩; have B1 := Lib.hid b1; clear b1 hW; obtain ⟨z0, z1, z2, z3, z4, z5, z6, z7, z8, z9, zf⟩ := box10 (keep_box HW.out B1.out))
    go_ret
    exact ⟨rfl, below_new HW.out B1.out⟩

set_option maxHeartbeats 1000000 in
theorem address_any (a : Nat) (w : World) (h1 : 1 ≤ a) (h2 : a ≤ 268435455) :
    Calls Try.prog 47 #[.int .i64 a] w fun e w' => e = .returned (.int .u64 (8 * (a : Int))) ∧ w = w' := by
  have hb : obB (a : Int) = true := by unfold obB; simp; omega
  have ho : obO (a : Int) = 8 * (a : Int) := by unfold obO; rw [hb]; rfl
  have HO := object_any (a : Int) w
  rw [hb, ho] at HO
  clear hb ho
  go_enter Try.func47, Try.ntmps47
  go_wp2_with (go_at_call 71; refine HO.mono ?_; rintro e w' ⟨rfl, rfl⟩)
  go_ret
  exact ⟨rfl, rfl⟩

set_option maxHeartbeats 2000000 in
set_option maxRecDepth 100000 in
theorem note_young (own : Own) (w : World) (p : Nat) (s : Hp) (g : Gh) (h : Rep own w p s g) (hw : Wf s) (o : Int) (h0 : 0 ≤ o) (h2 : o ≤ 18446744073709551615) (ho : isOb s o = true) (hy : isYoung s o = true) :
    Calls Try.prog 55 #[.pointer (some ⟨p, 0, none⟩), .int .u64 o] w fun e w' => e = .returned (.int .i64 44) ∧ Below w.heap.size w w' := by
  have HF := find_y own w p s g h hw o h0 h2 ho
  have HY := Lib.hid (fun w1 (b : Below w.heap.size w w1) => isYoung_any own (w1.alloc (.cells #[.int .i64 (atO o), .int .i64 (uC (s.mem (atO o))), .int .u8 (uF (s.mem (atO o))), .int .i64 (uS (s.mem (atO o))), .int .i64 (uH (s.mem (atO o))), .int .i64 (uA (s.mem (atO o))), .int .i64 (sl s (atO o)), .bool (uM (s.mem (atO o))), .bool (uN (s.mem (atO o))), .slice (slA g (atO o) (sl s (atO o))) (sl s (atO o)) (sl s (atO o))] 83)) p s g (found (W := w) h b _) o h0 h2)
  rw [hy] at HY
  simp only [objV] at HF
  obtain ⟨sa, hsa⟩ : ∃ sa, sa = slA g (atO o) (sl s (atO o)) := ⟨_, rfl⟩
  rw [← hsa] at HF HY
  clear h hw ho hsa hy
  generalize s.mem (atO o) = x at *
  generalize sl s (atO o) = k at *
  generalize atO o = a at *
  go_enter Try.func55, Try.ntmps55
  go_wp2_with (first
    | (go_at_call 24; refine HF.mono ?_; rintro e w1 ⟨rfl, b1⟩; have B1 := Lib.hid b1; clear b1)
    | (go_at_call 54; refine (HY.out _ B1.out).mono ?_; rintro e w2 ⟨rfl, rfl⟩))
  go_ret
  exact ⟨rfl, B1.out.alloc B1.out.size _⟩
set_option maxHeartbeats 2000000 in
set_option maxRecDepth 100000 in
theorem noteRef_no (own : Own) (w : World) (p : Nat) (s : Hp) (g : Gh) (h : Rep own w p s g) (hw : Wf s) (o v : Int) (h0 : 0 ≤ o) (h2 : o ≤ 18446744073709551615) (h0' : 0 ≤ v) (h2' : v ≤ 18446744073709551615) (hy : isYoung s v = false ∨ (isOb s o = true ∧ isYoung s o = true)) :
    Calls Try.prog 28 #[.pointer (some ⟨p, 0, none⟩), .int .u64 o, .int .u64 v] w fun e w' => e = .returned (.tuple #[]) ∧ Below w.heap.size w w' := by
  have HY := isYoung_any own w p s g h v h0' h2'
  cases hv : isYoung s v
  · rw [hv] at HY
    clear h hw hy hv
    go_enter Try.func28, Try.ntmps28
    go_wp2_with (go_at_call 54; refine HY.mono ?_; rintro e w2 ⟨rfl, rfl⟩)
    go_end0
    exact ⟨rfl, Below.refl _ _⟩
  · rw [hv] at HY
    rcases hy with q | ⟨q1, q2⟩
    · rw [hv] at q; cases q
    have HN := note_young own w p s g h hw o h0 h2 q1 q2
    clear h hw hv q1 q2
    go_enter Try.func28, Try.ntmps28
    go_wp2_with (first
      | (go_at_call 54; refine HY.mono ?_; rintro e w2 ⟨rfl, rfl⟩)
      | (go_at_call 55; refine HN.mono ?_; rintro e w2 ⟨rfl, b2⟩))
    go_end0
    exact ⟨rfl, b2⟩
end Go.Proofs.Ytklbgccfcfldaaa.Wk
