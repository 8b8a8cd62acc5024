/- Head, Oops: what the heap answers of an object. -/
import Derived.Test.YtklbgccfcfldaaaB4
set_option linter.unusedVariables false
namespace Go.Proofs.Ytklbgccfcfldaaa.Wk
open Go.ChangeShapes Go.WideShapes Go.ChangeAt Go.RowKit M

set_option maxHeartbeats 2000000 in
set_option maxRecDepth 100000 in
theorem oopsN_y (own : Own) (w : World) (p : Nat) (s : Hp) (g : Gh) (h : Rep own w p s g) (hw : Wf s) (o : Int) (h0 : 0 ≤ o) (h2 : o ≤ 18446744073709551615) (ho : isOb s o = true) :
    Calls Try.prog 79 #[.pointer (some ⟨p, 0, none⟩), .int .u64 o] w fun e w' => e = .returned (.tuple #[.int .i64 (nOops s (atO o)), .int .i64 0]) ∧ Below w.heap.size w w' := by
  have HF := find_y own w p s g h hw o h0 h2 ho
  have hst := (isOb_at hw ho).2
  have HO := Lib.hid (fun w1 (b : Below w.heap.size w w1) => oops_any own (w1.alloc (.cells (#[.int .i64 (atO o), .int .i64 (uC (s.mem (atO o))), .int .u8 (uF (s.mem (atO o))), .int .i64 (uS (s.mem (atO o))), .int .i64 (uH (s.mem (atO o))), .int .i64 (uA (s.mem (atO o))), .int .i64 (sl s (atO o)), .bool (uM (s.mem (atO o))), .bool (uN (s.mem (atO o))), .slice (slA g (atO o) (sl s (atO o))) (sl s (atO o)) (sl s (atO o))]) 83)) p s g ((h.below b (Nat.le_refl _)).below ((Below.refl _ _).alloc (Nat.le_refl _) _) (Nat.le_refl _)) hw (atO o) hst)
  simp only [objV] at HF HO
  obtain ⟨sa, hsa⟩ : ∃ sa, sa = slA g (atO o) (sl s (atO o)) := ⟨_, rfl⟩
  rw [← hsa] at HF HO
  clear h hw ho hsa hst
  generalize nOops s (atO o) = n at *
  generalize s.mem (atO o) = x at *
  generalize sl s (atO o) = k at *
  generalize atO o = a at *
  go_enter Try.func79, Try.ntmps79
  go_wp2_with (first
    | (go_at_call 24; refine HF.mono ?_; rintro e w1 ⟨rfl, b1⟩; have B1 := Lib.hid b1; clear b1)
    | (go_at_call 25; refine (HO.out _ B1.out).mono ?_; rintro e w2 ⟨rfl, b2⟩; have B2 := Lib.hid b2; clear b2))
  go_ret2
  exact ⟨rfl, (B1.out.alloc B1.out.size _).trans (B2.out.mono (by simp; exact Nat.le_succ_of_le B1.out.size))⟩
end Go.Proofs.Ytklbgccfcfldaaa.Wk
