/- find: the object that an oop names, or that there is none. -/
import Derived.Test.YtklbgccfcfldaaaB2
set_option linter.unusedVariables false
namespace Go.Proofs.Ytklbgccfcfldaaa.Wk
open Go.ChangeShapes Go.WideShapes Go.ChangeAt Go.RowKit M

abbrev obj0 : Value := .agg #[.int .i64 0, .int .i64 0, .int .u8 0, .int .i64 0, .int .i64 0, .int .i64 0, .int .i64 0, .bool false, .bool false, .slice none 0 0]
abbrev obj0c : Array Value := #[.int .i64 0, .int .i64 0, .int .u8 0, .int .i64 0, .int .i64 0, .int .i64 0, .int .i64 0, .bool false, .bool false, .slice none 0 0]

set_option maxHeartbeats 2000000 in
set_option maxRecDepth 100000 in
theorem find_n (own : Own) (w : World) (p : Nat) (s : Hp) (g : Gh) (h : Rep own w p s g) (o : Int) (h0 : 0 ≤ o) (h2 : o ≤ 18446744073709551615) (ho : isOb s o = false) :
    Calls Try.prog 24 #[.pointer (some ⟨p, 0, none⟩), .int .u64 o] w fun e w' => e = .returned (.tuple #[obj0, .int .i64 42]) ∧ Below w.heap.size w w' := by
  have hB : Below w.heap.size w (w.alloc (.cells obj0c 83)) := (Below.refl _ _).alloc (Nat.le_refl _) _
  have h' := h.below hB (Nat.le_refl _)
  cases hk : isK 3 o
  · have HW := fun W => wordOf_any o W h0 h2
    rw [hk] at HW
    clear h h' hB
    go_enter Try.func24, Try.ntmps24
    go_wp2_with (go_at_call 48; refine (HW _).mono ?_; rintro e w' ⟨rfl, rfl⟩)
    refine bodyPost_ret (v := .tuple #[obj0, .int .i64 42]) (by simp [results, Try.results24, go_sem]) rfl ⟨rfl, ?_⟩
    go_grown
  · obtain ⟨e1, e2, e3⟩ := obV_nat h0 hk
    have he : isOb s o = s.st (atO o) := by unfold isOb; rw [hk]; rfl
    have HW := fun W => wordOf_any o W h0 h2
    rw [hk, e1] at HW
    have HS := startsAt_any own _ p s g h' (atO o) e2
    rw [← he, ho] at HS
    clear h h' hB he e1 ho
    generalize atO o = a at *
    go_enter Try.func24, Try.ntmps24
    go_wp2_with (first
      | (go_at_call 48; refine (HW _).mono ?_; rintro e w' ⟨rfl, rfl⟩)
      | (go_at_call 49; refine HS.mono ?_; rintro e w' ⟨rfl, rfl⟩))
    refine bodyPost_ret (v := .tuple #[obj0, .int .i64 42]) (by simp [results, Try.results24, go_sem]) rfl ⟨rfl, ?_⟩
    go_grown

set_option maxHeartbeats 2000000 in
set_option maxRecDepth 100000 in
theorem find_y (own : Own) (w : World) (p : Nat) (s : Hp) (g : Gh) (h : Rep own w p s g) (hw : Wf s) (o : Int) (h0 : 0 ≤ o) (h2 : o ≤ 18446744073709551615) (ho : isOb s o = true) :
    Calls Try.prog 24 #[.pointer (some ⟨p, 0, none⟩), .int .u64 o] w fun e w' => e = .returned (.tuple #[objV g (s.mem (atO o)) (atO o) (sl s (atO o)), .int .i64 0]) ∧ Below w.heap.size w w' := by
  obtain ⟨W, hW⟩ : ∃ W, W = w.alloc (.cells obj0c 83) := ⟨_, rfl⟩
  have hB : Below w.heap.size w W := by rw [hW]; exact (Below.refl _ _).alloc (Nat.le_refl _) _
  have h' := h.below hB (Nat.le_refl _)
  have hk : isK 3 o = true := by unfold isOb at ho; simp at ho; exact ho.1
  have hst := (isOb_at hw ho).2
  have hbd := hw.st _ hst
  obtain ⟨e1, e2, e3⟩ := obV_nat h0 hk
  have HW := fun W => wordOf_any o W h0 h2
  rw [hk, e1] at HW
  have HS := startsAt_any own _ p s g h' (atO o) e2
  have HO := obj_any own _ p s g h' (atO o) hbd.2.1 hbd.2.2
  rw [hst] at HS
  have HB := Lib.hid hB
  have HWW := Lib.hid hW
  clear h h' hB e1 ho hst hbd
  obtain ⟨x, hx⟩ : ∃ x, x = s.mem (atO o) := ⟨_, rfl⟩
  obtain ⟨k, hk⟩ : ∃ k, k = sl s (atO o) := ⟨_, rfl⟩
  rw [← hx, ← hk] at HO ⊢
  obtain ⟨sa, hsa⟩ : ∃ sa, sa = slA g (atO o) k := ⟨_, rfl⟩
  simp only [objV] at HO ⊢
  rw [← hsa] at HO ⊢
  clear hsa hx hk
  generalize atO o = a at *
  go_enter Try.func24, Try.ntmps24
  go_wp2_with (first
    | (go_at_call 48; rw [← hW]; refine (HW _).mono ?_; rintro e w' ⟨rfl, rfl⟩; clear hW)
    | (go_at_call 49; refine HS.mono ?_; rintro e w' ⟨rfl, rfl⟩)
    | (go_at_call 50; refine HO.mono ?_; rintro e w2 ⟨rfl, b2⟩; have B2 := Lib.hid b2; clear b2; obtain ⟨z0, z1, z2, z3, z4, z5, z6, z7, z8, z9, zf⟩ := box10 (keep_box HWW.out B2.out)))
  refine bodyPost_ret (v := .tuple #[.agg #[.int .i64 a, .int .i64 (uC x), .int .u8 (uF x), .int .i64 (uS x), .int .i64 (uH x), .int .i64 (uA x), .int .i64 k, .bool (uM x), .bool (uN x), .slice sa k k], .int .i64 0]) (by simp [results, Try.results24, go_sem, z0, z1, z2, z3, z4, z5, z6, z7, z8, z9]) rfl ⟨rfl, ?_⟩
  exact store10 (below_new HWW.out B2.out) (Nat.le_refl _)
end Go.Proofs.Ytklbgccfcfldaaa.Wk
