/- The chapter's examples hold. No condition beyond what each theorem states. -/
import Derived.Test.YtgefodobcibgpaaW1
import Derived.Test.YtgefodobcibgpaaW4
namespace Go.Proofs.Ytgefodobcibgpaa.Wk
open Go.ChangeShapes Go.WideShapes Go.ChangeAt Go.RowKit M

set_option maxHeartbeats 1000000 in
set_option maxRecDepth 100000 in
theorem works_any (w : World) :
    Calls Try.prog 8 #[] w fun e w' => e = .returned (.bool true) ∧ Below w.heap.size w w' := by
  have a1 : smO 0 = 1 := by decide
  have a2 : smB 0 = true := by decide
  have a3 : smO (-1) = 18446744073709551609 := by decide
  have a4 : smB (-1) = true := by decide
  have a5 : smO 1152921504606846976 = 0 := by decide
  have a6 : smB 1152921504606846976 = false := by decide
  have a7 : chO 97 = 778 := by decide
  have a8 : chB 97 = true := by decide
  have a9 : obO 2 = 16 := by decide
  have a10 : obB 2 = true := by decide
  have a11 : tagN 3 = 4 := by decide
  have a12 : packA 5 2 0 1 0 false false = 270341 := by decide
  go_enter Try.func8, Try.ntmps8
  go_wp2_with (first
    | (go_at_call 9; refine (small_any _ _).mono ?_; rintro e w' ⟨rfl, rfl⟩)
    | (go_at_call 11; refine (char_any _ _).mono ?_; rintro e w' ⟨rfl, rfl⟩)
    | (go_at_call 13; refine (object_any _ _).mono ?_; rintro e w' ⟨rfl, rfl⟩)
    | (go_at_call 15; refine (tag_any _ _ (by omega) (by omega)).mono ?_; rintro e w' ⟨rfl, rfl⟩)
    | (go_at_call 23; refine (pack_y 5 2 0 1 0 3 false false _ (by decide)).mono ?_; rintro e w1 ⟨rfl, b1⟩)
    | (go_at_call 25; refine (unpack_n 0 0 _ (by omega) (by omega) (by omega) (by decide)).mono ?_; rintro e w2 ⟨rfl, b2⟩))
  go_ret
  exact ⟨rfl, (b1.trans (b2.mono b1.size)).alloc (Nat.le_trans b1.size b2.size) _⟩
end Go.Proofs.Ytgefodobcibgpaa.Wk
