/- What Pack answers (the program's and the document's), for every header. No condition beyond what each theorem states. -/
import Derived.Test.YtklbgccfcfldaaaA2
import Derived.Lib.SmallJoins
namespace Go.Proofs.Ytklbgccfcfldaaa.Wk
open Go.ChangeShapes Go.WideShapes Go.ChangeAt Go.RowKit M

set_option maxHeartbeats 400000 in
theorem flag_any (b : Bool) (w : World) :
    Calls Try.prog 83 #[.bool b] w fun e w' => e = .returned (.int .u64 (bit b)) ∧ w = w' := by
  cases b
  all_goals
    go_enter Try.func83, Try.ntmps83
    go_wp2
    go_ret
    exact ⟨rfl, rfl⟩
theorem flag_q (b : Bool) (w : World) :
    Calls Try.prog 83 #[.bool b] w fun e w' => e = .returned (.int .u64 (bit b)) ∧ w' = w := (flag_any b w).mono fun _ _ h => ⟨h.1, h.2.symm⟩
/-- A header as a value. -/
abbrev hdV (c f s h a l : Int) (m n : Bool) : Value := .agg #[.int .i64 c, .int .u8 f, .int .i64 s, .int .i64 h, .int .i64 a, .int .i64 l, .bool m, .bool n]

theorem ret3 {k1 k2 k3 : IntKind} {a a' b b' c c' : Int} (h : a = a') (g : b = b') (i : c = c') : Ending.returned (.tuple #[.int k1 a, .int k2 b, .int k3 c]) = .returned (.tuple #[.int k1 a', .int k2 b', .int k3 c']) := by rw [h, g, i]
theorem below2 {w : World} (o1 o2 : Obj) (n m : Nat) : Below w.heap.size w ((((w.alloc o1).alloc o2).drewN n).drewN m) :=
  ((Joins.below_alloc2 w o1 o2).trans (Joins.below_draws _ _ n)).trans (Joins.below_draws _ _ m)

set_option maxHeartbeats 1000000 in
set_option maxRecDepth 100000 in
theorem pack_n (c f s h a l : Int) (m n : Bool) (w : World) (hh : hdB c f s h a l = false) :
    Calls Try.prog 66 #[hdV c f s h a l m n] w fun e w' =>
      e = .returned (.tuple #[.int .u64 0, .int .u64 0, .int .i64 10]) ∧ Below w.heap.size w w' := by
  go_enter Try.func66, Try.ntmps66
  go_wp2_with (go_at_call 82; refine (valid_any _ _ _ _ _ _ _ _ _).mono ?_; rintro e w' ⟨rfl, rfl⟩)
  go_ret3
  exact ⟨rfl, Joins.below_alloc2 _ _ _⟩

set_option maxHeartbeats 1000000 in
set_option maxRecDepth 100000 in
theorem pack_y (c f s h a l : Int) (m n : Bool) (w : World) (hh : hdB c f s h a l = true) :
    Calls Try.prog 66 #[hdV c f s h a l m n] w fun e w' =>
      e = .returned (.tuple #[.int .u64 (packA c f s h a m n), .int .u64 l, .int .i64 0]) ∧ Below w.heap.size w w' := by
  obtain ⟨⟨h1, h2⟩, ⟨h5, h6⟩, ⟨h7, h8⟩, ⟨h9, h10⟩, ⟨h11, h12⟩, hf⟩ := (hdB_iff _ _ _ _ _ _).1 hh
  have h3 : 0 ≤ f := by omega
  have h4 : f ≤ 6 := by omega
  clear hf
  have hm1 := (bit_bd m).1
  have hm2 := (bit_bd m).2
  have hn1 := (bit_bd n).1
  have hn2 := (bit_bd n).2
  go_enter Try.func66, Try.ntmps66
  go_wp2_with (go_at_call 82; refine (valid_any _ _ _ _ _ _ _ _ _).mono ?_; rintro e w' ⟨rfl, rfl⟩)
  go_quiet ((go_at_call 83; exact Calls.quiet_of_same (flag_q _ _)))
  go_wp2
  go_quiet (fail)
  go_wp2
  go_ret3
  exact ⟨ret3 (packA_bits c f s h a m n h1 h2 h3 h4 h5 h6 h7 h8 h9 h10) rfl rfl, below2 _ _ _ _⟩

end Go.Proofs.Ytklbgccfcfldaaa.Wk
