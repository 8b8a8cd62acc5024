/- What Tag, SmallOf, CharOf, WordOf, Small, Char, Object (the program's and the document's) answer, for every argument. No condition beyond what each theorem states. -/
import Derived.Test.YtklbgccfcfldaaaRows
import Derived.Test.YtklbgccfcfldaaaA
import Derived.WalkKit
import Derived.ProofKit
import Derived.OpenShut
import Derived.WalkLawsBesides
import Derived.WalkSpells
import Derived.Lib.Hide
namespace Go.Proofs.Ytklbgccfcfldaaa.Wk
open Go.ChangeShapes Go.WideShapes Go.ChangeAt Go.RowKit M

theorem ret_int {k : IntKind} {a b : Int} (h : a = b) : Ending.returned (.int k a) = .returned (.int k b) := by rw [h]
theorem ret2 {k : IntKind} {a b : Int} {x y : Bool} (h : a = b) (g : x = y) : Ending.returned (.tuple #[.int k a, .bool x]) = .returned (.tuple #[.int k b, .bool y]) := by rw [h, g]

set_option maxHeartbeats 400000 in
theorem tag_any (n : Int) (w : World) (h : 0 ≤ n) (h2 : n ≤ 18446744073709551615) :
    Calls Try.prog 52 #[.int .u64 n] w fun e w' => e = .returned (.int .u8 (tagN n)) ∧ w = w' := by
  have h7 := and7 n h h2
  go_enter Try.func52, Try.ntmps52
  go_wp2
  all_goals
    go_ret
    refine ⟨ret_int ?_, rfl⟩
    simp only [beq_iff_eq, beq_eq_false_iff_ne, ne_eq] at *
    unfold tagN
    repeat' split
    all_goals omega
set_option maxHeartbeats 400000 in
theorem smallOf_any (n : Int) (w : World) (h : 0 ≤ n) (h2 : n ≤ 18446744073709551615) :
    Calls Try.prog 51 #[.int .u64 n] w fun e w' => e = .returned (.tuple #[.int .i64 (smV n), .bool (isK 1 n)]) ∧ w = w' := by
  have hb := bne_of 1 n
  cases ht : isK 1 n
  all_goals
    rw [ht] at hb; simp only [Bool.not_true, Bool.not_false] at hb
    first | (have hv := Lib.hid (smV_no n ht)) | (have hv := Lib.hid (smV_shift n h h2 ht))
    clear ht
    go_enter Try.func51, Try.ntmps51
    go_wp2_with (go_at_call 52; refine (tag_any _ _ (by omega) (by omega)).mono ?_; rintro e w' ⟨rfl, rfl⟩)
    go_ret2
    first | exact ⟨ret2 hv.out.symm rfl, rfl⟩ | exact ⟨ret2 hv.out rfl, rfl⟩
set_option maxHeartbeats 400000 in
theorem wordOf_any (n : Int) (w : World) (h : 0 ≤ n) (h2 : n ≤ 18446744073709551615) :
    Calls Try.prog 48 #[.int .u64 n] w fun e w' => e = .returned (.tuple #[.int .i64 (obV n), .bool (isK 3 n)]) ∧ w = w' := by
  have hb := bne_of 3 n
  cases ht : isK 3 n
  all_goals
    rw [ht] at hb; simp only [Bool.not_true, Bool.not_false] at hb
    first | (have hv := Lib.hid (obV_n n ht)) | (have hv := Lib.hid (obV_y n ht))
    clear ht
    go_enter Try.func48, Try.ntmps48
    go_wp2_with (go_at_call 52; refine (tag_any _ _ (by omega) (by omega)).mono ?_; rintro e w' ⟨rfl, rfl⟩)
    go_ret2
    exact ⟨ret2 hv.out.symm rfl, rfl⟩
set_option maxHeartbeats 400000 in
theorem small_any (n : Int) (w : World) :
    Calls Try.prog 70 #[.int .i64 n] w fun e w' => e = .returned (.tuple #[.int .u64 (smO n), .bool (smB n)]) ∧ w = w' := by
  by_cases hl : n < -1152921504606846976
  · go_enter Try.func70, Try.ntmps70
    go_wp2
    go_ret2
    have : smB n = false := by unfold smB; simp; omega
    exact ⟨ret2 (by unfold smO; rw [this]; rfl) this.symm, rfl⟩
  · by_cases hh : 1152921504606846975 < n
    · go_enter Try.func70, Try.ntmps70
      go_wp2
      go_ret2
      have : smB n = false := by unfold smB; simp; omega
      exact ⟨ret2 (by unfold smO; rw [this]; rfl) this.symm, rfl⟩
    · have h1 : -1152921504606846976 ≤ n := by omega
      have h2 : n ≤ 1152921504606846975 := by omega
      clear hl hh
      go_enter Try.func70, Try.ntmps70
      go_wp2
      go_ret2
      have : smB n = true := by unfold smB; simp; omega
      exact ⟨ret2 (by unfold smO; rw [this]; exact oopS_bits n) this.symm, rfl⟩
set_option maxHeartbeats 400000 in
theorem object_any (n : Int) (w : World) :
    Calls Try.prog 71 #[.int .i64 n] w fun e w' => e = .returned (.tuple #[.int .u64 (obO n), .bool (obB n)]) ∧ w = w' := by
  by_cases hl : n < 1
  · go_enter Try.func71, Try.ntmps71
    go_wp2
    go_ret2
    have : obB n = false := by unfold obB; simp; omega
    exact ⟨ret2 (by unfold obO; rw [this]; rfl) this.symm, rfl⟩
  · by_cases hh : 268435455 < n
    · go_enter Try.func71, Try.ntmps71
      go_wp2
      go_ret2
      have : obB n = false := by unfold obB; simp; omega
      exact ⟨ret2 (by unfold obO; rw [this]; rfl) this.symm, rfl⟩
    · have h1 : 1 ≤ n := by omega
      have h2 : n ≤ 268435455 := by omega
      clear hl hh
      go_enter Try.func71, Try.ntmps71
      go_wp2
      go_ret2
      have : obB n = true := by unfold obB; simp; omega
      exact ⟨ret2 (by unfold obO; rw [this, or_low _ 0 (by omega) (by omega) (by omega) (by omega) (by omega)]; simp; omega) this.symm, rfl⟩
end Go.Proofs.Ytklbgccfcfldaaa.Wk
