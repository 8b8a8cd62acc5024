/- What within, suits, valid and May answer, for every argument. No condition beyond what each theorem states. -/
import Derived.Test.YtklbgccfcfldaaaRows
import Derived.Test.YtklbgccfcfldaaaA
import Derived.WalkKit
import Derived.ProofKit
import Derived.OpenShut
import Derived.WalkLawsBesides
import Derived.WalkSpells
import Derived.Lib.Hide
import Derived.Deep.QuietTactic
import Derived.BigQuiet
namespace Go.Proofs.Ytklbgccfcfldaaa.Wk
open Go.ChangeShapes Go.WideShapes Go.ChangeAt Go.RowKit M

theorem ret_bool {x y : Bool} (g : x = y) : Ending.returned (.bool x) = .returned (.bool y) := by rw [g]

set_option maxHeartbeats 400000 in
theorem within_any (n m : Int) (w : World) :
    Calls Try.prog 89 #[.int .i64 n, .int .i64 m] w fun e w' => e = .returned (.bool (inB n m)) ∧ w = w' := by
  go_enter Try.func89, Try.ntmps89
  go_wp2
  all_goals
    go_ret
    exact ⟨ret_bool (by unfold inB; rw [Bool.eq_iff_iff]; simp <;> omega), rfl⟩
set_option maxHeartbeats 400000 in
theorem suits_any (f sp sl : Int) (w : World) (hb : inB sl 65536 = true) :
    Calls Try.prog 90 #[.int .u8 f, .int .i64 sp, .int .i64 sl] w fun e w' => e = .returned (.bool (suB f sp sl)) ∧ w = w' := by
  obtain ⟨h1, h2⟩ := (inB_iff _ _).1 hb
  clear hb
  go_enter Try.func90, Try.ntmps90
  go_wp2
  all_goals
    go_ret
    refine ⟨ret_bool ?_, rfl⟩
    rw [Bool.eq_iff_iff, suB_iff]
    try simp only [beq_iff_eq, beq_eq_false_iff_ne, ne_eq] at *
    first | omega | (simp <;> omega)
set_option maxHeartbeats 1000000 in
set_option maxRecDepth 100000 in
theorem valid_any (c f s h a l : Int) (m n : Bool) (w : World) :
    Calls Try.prog 82 #[.agg #[.int .i64 c, .int .u8 f, .int .i64 s, .int .i64 h, .int .i64 a, .int .i64 l, .bool m, .bool n]] w fun e w' =>
      e = .returned (.bool (hdB c f s h a l)) ∧ w.alloc (.cells #[.int .i64 c, .int .u8 f, .int .i64 s, .int .i64 h, .int .i64 a, .int .i64 l, .bool m, .bool n] 78) = w' := by
  go_enter Try.func82, Try.ntmps82
  go_wp2_with (first
    | (go_at_call 89; refine (within_any _ _ _).mono ?_; rintro e w' ⟨rfl, rfl⟩)
    | (go_at_call 90; refine (suits_any _ _ _ _ (by assumption)).mono ?_; rintro e w' ⟨rfl, rfl⟩))
  all_goals
    go_ret
    refine ⟨ret_bool ?_, rfl⟩
    simp [hdB, *]
end Go.Proofs.Ytklbgccfcfldaaa.Wk
