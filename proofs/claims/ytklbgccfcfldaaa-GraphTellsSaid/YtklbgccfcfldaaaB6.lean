/- Head. -/
import Derived.Test.YtklbgccfcfldaaaB4
set_option linter.unusedVariables false
namespace Go.Proofs.Ytklbgccfcfldaaa.Wk
open Go.ChangeShapes Go.WideShapes Go.ChangeAt Go.RowKit M

set_option maxHeartbeats 2000000 in
set_option maxRecDepth 100000 in
theorem head_y (own : Own) (w : World) (p : Nat) (s : Hp) (g : Gh) (h : Rep own w p s g) (hw : Wf s) (o : Int) (h0 : 0 ≤ o) (h2 : o ≤ 18446744073709551615) (ho : isOb s o = true) :
    Calls Try.prog 34 #[.pointer (some ⟨p, 0, none⟩), .int .u64 o] w fun e w' => e = .returned (.tuple #[.agg (hdCells (s.mem (atO o)) (sl s (atO o))), .int .i64 0]) ∧ Below w.heap.size w w' := by
  obtain ⟨W, hW⟩ : ∃ W, W = w.alloc (.cells #[.int .i64 0, .int .u8 0, .int .i64 0, .int .i64 0, .int .i64 0, .int .i64 0, .bool false, .bool false] 78) := ⟨_, rfl⟩
  have hB : Below w.heap.size w W := by rw [hW]; exact (Below.refl _ _).alloc (Nat.le_refl _) _
  have HF := find_y own W p s g (h.below hB (Nat.le_refl _)) hw o h0 h2 ho
  have HWW := Lib.hid hW
  simp only [objV] at HF
  obtain ⟨sa, hsa⟩ : ∃ sa, sa = slA g (atO o) (sl s (atO o)) := ⟨_, rfl⟩
  rw [← hsa] at HF
  clear h hw hB ho hsa
  generalize s.mem (atO o) = x at *
  generalize sl s (atO o) = k at *
  generalize atO o = a at *
  go_enter Try.func34, Try.ntmps34
  go_wp2_with (go_at_call 24; rw [← hW]; refine HF.mono ?_; rintro e w2 ⟨rfl, b2⟩; have B2 := Lib.hid (b2.alloc b2.size (.cells #[.int .i64 a, .int .i64 (uC x), .int .u8 (uF x), .int .i64 (uS x), .int .i64 (uH x), .int .i64 (uA x), .int .i64 k, .bool (uM x), .bool (uN x), .slice sa k k] 83)); clear b2 hW; obtain ⟨z0, z1, z2, z3, z4, z5, z6, z7, zf⟩ := box8 (keep_box HWW.out B2.out))
  refine bodyPost_ret (v := .tuple #[.agg (hdCells x k), .int .i64 0]) (by simp [results, Try.results34, go_sem, z0, z1, z2, z3, z4, z5, z6, z7]) rfl ⟨rfl, ?_⟩
  exact store8 (below_new HWW.out B2.out) (Nat.le_refl _)

end Go.Proofs.Ytklbgccfcfldaaa.Wk
