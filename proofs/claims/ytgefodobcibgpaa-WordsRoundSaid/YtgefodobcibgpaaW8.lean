/- The laws WordsHeaders and WordsRound return true, for every argument. No condition beyond what each theorem states. -/
import Derived.Test.YtgefodobcibgpaaW5
import Derived.Test.YtgefodobcibgpaaM2
import Derived.Deep.DeepCutAuto
import Derived.Deep.RegionWith
namespace Go.Proofs.Ytgefodobcibgpaa.Wk
open Go.Joins Go.ChangeShapes Go.WideShapes Go.ChangeAt Go.RowKit Go.Deep M
set_option linter.unusedVariables false

section
variable {H : Type} {enc : TypeId × Value → H} {P : Program} {w : World} {base : Nat} {spare : Nat → Bool} {held : Bool}
theorem open_agg8 {r : Reach} {b0 : Nat} {t : TypeId} {f0 f1 f2 f3 f4 f5 f6 f7 : Field} {v : Value} {d : DataW H} {p : List MemPlace} (hs : P.underlying t = some (.struct #[f0, f1, f2, f3, f4, f5, f6, f7])) (hone : oneCellFields P #[f0, f1, f2, f3, f4, f5, f6, f7] = true) (hC : P.cellsOf t = 8)
    (hv : Value.okWide P w r b0 t v) (h : DataW.Trod enc P w base spare held t v d p) :
    ∃ (v0 v1 v2 v3 v4 v5 v6 v7 : Value) (y0 y1 y2 y3 y4 y5 y6 y7 : DataW H × List MemPlace) (n : Nat), v = .agg #[v0, v1, v2, v3, v4, v5, v6, v7] ∧
      DataW.trod enc P w base spare held n f0.type [v0] = some y0 ∧ DataW.trod enc P w base spare held n f1.type [v1] = some y1 ∧ DataW.trod enc P w base spare held n f2.type [v2] = some y2 ∧ DataW.trod enc P w base spare held n f3.type [v3] = some y3 ∧ DataW.trod enc P w base spare held n f4.type [v4] = some y4 ∧ DataW.trod enc P w base spare held n f5.type [v5] = some y5 ∧ DataW.trod enc P w base spare held n f6.type [v6] = some y6 ∧ DataW.trod enc P w base spare held n f7.type [v7] = some y7 := by
  obtain ⟨cs, rfl, hsz⟩ := okWide_struct hs hv
  obtain ⟨l⟩ := cs
  match l, hsz.trans hC with
  | [c0, c1, c2, c3, c4, c5, c6, c7], _ =>
    obtain ⟨fuel, hf⟩ := h
    obtain ⟨xs, n, _, hx, _, hlen, hg⟩ := DataW.trod_struct hs hf
    obtain ⟨o0, k0⟩ := hone_of hone 0 f0 rfl
    obtain ⟨o1, k1⟩ := hone_of hone 1 f1 rfl
    obtain ⟨o2, k2⟩ := hone_of hone 2 f2 rfl
    obtain ⟨o3, k3⟩ := hone_of hone 3 f3 rfl
    obtain ⟨o4, k4⟩ := hone_of hone 4 f4 rfl
    obtain ⟨o5, k5⟩ := hone_of hone 5 f5 rfl
    obtain ⟨o6, k6⟩ := hone_of hone 6 f6 rfl
    obtain ⟨o7, k7⟩ := hone_of hone 7 f7 rfl
    match xs, hlen with
    | [y0, y1, y2, y3, y4, y5, y6, y7], _ =>
      exact ⟨c0, c1, c2, c3, c4, c5, c6, c7, y0, y1, y2, y3, y4, y5, y6, y7, n, rfl, by simpa [Value.cells, o0, k0] using hg 0 f0 rfl, by simpa [Value.cells, o1, k1] using hg 1 f1 rfl, by simpa [Value.cells, o2, k2] using hg 2 f2 rfl, by simpa [Value.cells, o3, k3] using hg 3 f3 rfl, by simpa [Value.cells, o4, k4] using hg 4 f4 rfl, by simpa [Value.cells, o5, k5] using hg 5 f5 rfl, by simpa [Value.cells, o6, k6] using hg 6 f6 rfl, by simpa [Value.cells, o7, k7] using hg 7 f7 rfl⟩
end

/-- A header that comes in: its eight cells. -/
theorem open_hdr {H : Type} {enc : TypeId × Value → H} {w : World} {r : Reach} {b0 base : Nat} {spare : Nat → Bool} {held : Bool} {v : Value} {d : DataW H} {p : List MemPlace}
    (hv : Value.okWide Try.prog w r b0 37 v) (h : DataW.Trod enc Try.prog w base spare held 37 v d p) :
    ∃ c f s h a l m n, v = hdV c f s h a l m n := by
  obtain ⟨v0, v1, v2, v3, v4, v5, v6, v7, y0, y1, y2, y3, y4, y5, y6, y7, n, rfl, h0, h1, h2, h3, h4, h5, h6, h7⟩ := open_agg8 Try.underlying37 (by kernel_rfl) (by kernel_rfl) hv h
  obtain ⟨a0, e0, _, _⟩ := DataW.trod_int Try.underlying3 h0
  obtain ⟨a1, e1, _, _⟩ := DataW.trod_int Try.underlying35 h1
  obtain ⟨a2, e2, _, _⟩ := DataW.trod_int Try.underlying3 h2
  obtain ⟨a3, e3, _, _⟩ := DataW.trod_int Try.underlying3 h3
  obtain ⟨a4, e4, _, _⟩ := DataW.trod_int Try.underlying3 h4
  obtain ⟨a5, e5, _, _⟩ := DataW.trod_int Try.underlying3 h5
  obtain ⟨a6, e6, _⟩ := DataW.trod_bool Try.underlying4 h6
  obtain ⟨a7, e7, _⟩ := DataW.trod_bool Try.underlying4 h7
  simp only [List.cons.injEq, and_true] at e0 e1 e2 e3 e4 e5 e6 e7
  subst e0 e1 e2 e3 e4 e5 e6 e7
  exact ⟨_, _, _, _, _, _, _, _, rfl⟩

theorem bcell {W w1 : World} (hb : Below W.heap.size W w1) : (∀ b o, b < W.heap.size → w1.cell? ⟨b, o, none⟩ = W.cell? ⟨b, o, none⟩) ∧ (∀ b o, b < W.heap.size → w1.frozen? ⟨b, o, none⟩ = W.frozen? ⟨b, o, none⟩) :=
  ⟨fun b o h => hb.cell (p := ⟨b, o, none⟩) h, fun b o h => hb.frozen (p := ⟨b, o, none⟩) h⟩

set_option maxHeartbeats 2000000 in
set_option maxRecDepth 100000 in
theorem WordsHeaders_walk {H : Type} {enc : TypeId × Value → H} {r : Reach} {b0 base : Nat} {spare : Nat → Bool} {held : Bool} {d : DataW H} {p : List MemPlace} (v : Value) (x y : Int) (w : World)
    (hv : Value.okWide Try.prog w r b0 37 v) (hh : DataW.Trod enc Try.prog w base spare held 37 v d p) (w1 : (Lit.int .u64 x).wf = true) (w2 : (Lit.int .u64 y).wf = true) :
    Calls Try.prog 4 #[v, .int .u64 x, .int .u64 y] w fun e w' => e = .returned (.bool true) ∧ Below w.heap.size w w' := by
  obtain ⟨c, f, s, h, a, l, m, n, rfl⟩ := open_hdr hv hh
  clear hv hh
  obtain ⟨x1, x2⟩ := bounds_u64 w1
  obtain ⟨y1, y2⟩ := bounds_u64 w2
  clear w1 w2
  cases hB : hdB c f s h a l
  · cases uB : unB x y
    · go_enter Try.func4, Try.ntmps4
      go_wp2_with (first
        | (go_at_call 8; refine (works_any _).mono ?_; rintro e w1 ⟨rfl, b1⟩; obtain ⟨c1, f1⟩ := bcell b1; have z1 : w.heap.size < w1.heap.size := (by have := b1.size; simp at this; omega))
        | (go_at_call 23; refine (pack_n _ _ _ _ _ _ _ _ _ hB).mono ?_; rintro e w2 ⟨rfl, b2⟩; obtain ⟨c2, f2⟩ := bcell b2; have z2 : w.heap.size < w2.heap.size := (by have := b2.size; omega))
        | (go_at_call 24; refine (rpack_n _ _ _ _ _ _ _ _ _ hB).mono ?_; rintro e w3 ⟨rfl, b3⟩; obtain ⟨c3, f3⟩ := bcell b3; have z3 : w.heap.size < w3.heap.size := (by have := b3.size; omega))
        | (go_at_call 25; refine (unpack_n _ _ _ (by omega) (by omega) (by omega) uB).mono ?_; rintro e w4 ⟨rfl, b4⟩; obtain ⟨c4, f4⟩ := bcell b4; have z4 : w.heap.size < w4.heap.size := (by have := b4.size; omega))
        | (go_at_call 26; refine (runpack_n _ _ _ (by omega) (by omega) (by omega) uB).mono ?_; rintro e w5 ⟨rfl, b5⟩; obtain ⟨c5, f5⟩ := bcell b5; have z5 : w4.heap.size < w5.heap.size := (by have := b5.size; simp at this; omega)))
      go_ret
      have t1 : Below w.heap.size w w1 := (Joins.below_alloc1 w _).trans (b1.mono (by simp))
      have t2 := t1.trans (b2.mono t1.size)
      have t3 := t2.trans (b3.mono t2.size)
      have t4 := t3.trans (b4.mono t3.size)
      have t5 := (t4.alloc t4.size _).trans (b5.mono (Nat.le_trans t4.size (by simp)))
      exact ⟨rfl, t5.alloc t5.size _⟩
    · obtain ⟨ub1, ub2, ub3⟩ := (unB_iff x y).1 uB
      clear uB
      go_enter Try.func4, Try.ntmps4
      go_wp2_with (first
        | (go_at_call 8; refine (works_any _).mono ?_; rintro e w1 ⟨rfl, b1⟩; obtain ⟨c1, f1⟩ := bcell b1; have z1 : w.heap.size < w1.heap.size := (by have := b1.size; simp at this; omega))
        | (go_at_call 23; refine (pack_n _ _ _ _ _ _ _ _ _ hB).mono ?_; rintro e w2 ⟨rfl, b2⟩; obtain ⟨c2, f2⟩ := bcell b2; have z2 : w.heap.size < w2.heap.size := (by have := b2.size; omega))
        | (go_at_call 24; refine (rpack_n _ _ _ _ _ _ _ _ _ hB).mono ?_; rintro e w3 ⟨rfl, b3⟩; obtain ⟨c3, f3⟩ := bcell b3; have z3 : w.heap.size < w3.heap.size := (by have := b3.size; omega))
        | (go_at_call 25; refine (unpack_y _ _ _ (by omega) (by omega) ub1 ub2 ub3).mono ?_; rintro e w4 ⟨rfl, b4⟩; obtain ⟨c4, f4⟩ := bcell b4; have z4 : w.heap.size < w4.heap.size := (by have := b4.size; omega))
        | (go_at_call 26; refine (runpack_y _ _ _ (by omega) (by omega) ub1 ub2 ub3).mono ?_; rintro e w5 ⟨rfl, b5⟩; obtain ⟨c5, f5⟩ := bcell b5; have z5 : w4.heap.size < w5.heap.size := (by have := b5.size; simp at this; omega)))
      go_ret
      have t1 : Below w.heap.size w w1 := (Joins.below_alloc1 w _).trans (b1.mono (by simp))
      have t2 := t1.trans (b2.mono t1.size)
      have t3 := t2.trans (b3.mono t2.size)
      have t4 := t3.trans (b4.mono t3.size)
      have t5 := (t4.alloc t4.size _).trans (b5.mono (Nat.le_trans t4.size (by simp)))
      exact ⟨rfl, t5.alloc t5.size _⟩
  · cases uB : unB x y
    · go_enter Try.func4, Try.ntmps4
      go_wp2_with (first
        | (go_at_call 8; refine (works_any _).mono ?_; rintro e w1 ⟨rfl, b1⟩; obtain ⟨c1, f1⟩ := bcell b1; have z1 : w.heap.size < w1.heap.size := (by have := b1.size; simp at this; omega))
        | (go_at_call 23; refine (pack_y _ _ _ _ _ _ _ _ _ hB).mono ?_; rintro e w2 ⟨rfl, b2⟩; obtain ⟨c2, f2⟩ := bcell b2; have z2 : w.heap.size < w2.heap.size := (by have := b2.size; omega))
        | (go_at_call 24; refine (rpack_y _ _ _ _ _ _ _ _ _ hB).mono ?_; rintro e w3 ⟨rfl, b3⟩; obtain ⟨c3, f3⟩ := bcell b3; have z3 : w.heap.size < w3.heap.size := (by have := b3.size; omega))
        | (go_at_call 25; refine (unpack_n _ _ _ (by omega) (by omega) (by omega) uB).mono ?_; rintro e w4 ⟨rfl, b4⟩; obtain ⟨c4, f4⟩ := bcell b4; have z4 : w.heap.size < w4.heap.size := (by have := b4.size; omega))
        | (go_at_call 26; refine (runpack_n _ _ _ (by omega) (by omega) (by omega) uB).mono ?_; rintro e w5 ⟨rfl, b5⟩; obtain ⟨c5, f5⟩ := bcell b5; have z5 : w4.heap.size < w5.heap.size := (by have := b5.size; simp at this; omega)))
      go_ret
      have t1 : Below w.heap.size w w1 := (Joins.below_alloc1 w _).trans (b1.mono (by simp))
      have t2 := t1.trans (b2.mono t1.size)
      have t3 := t2.trans (b3.mono t2.size)
      have t4 := t3.trans (b4.mono t3.size)
      have t5 := (t4.alloc t4.size _).trans (b5.mono (Nat.le_trans t4.size (by simp)))
      exact ⟨rfl, t5.alloc t5.size _⟩
    · obtain ⟨ub1, ub2, ub3⟩ := (unB_iff x y).1 uB
      clear uB
      go_enter Try.func4, Try.ntmps4
      go_wp2_with (first
        | (go_at_call 8; refine (works_any _).mono ?_; rintro e w1 ⟨rfl, b1⟩; obtain ⟨c1, f1⟩ := bcell b1; have z1 : w.heap.size < w1.heap.size := (by have := b1.size; simp at this; omega))
        | (go_at_call 23; refine (pack_y _ _ _ _ _ _ _ _ _ hB).mono ?_; rintro e w2 ⟨rfl, b2⟩; obtain ⟨c2, f2⟩ := bcell b2; have z2 : w.heap.size < w2.heap.size := (by have := b2.size; omega))
        | (go_at_call 24; refine (rpack_y _ _ _ _ _ _ _ _ _ hB).mono ?_; rintro e w3 ⟨rfl, b3⟩; obtain ⟨c3, f3⟩ := bcell b3; have z3 : w.heap.size < w3.heap.size := (by have := b3.size; omega))
        | (go_at_call 25; refine (unpack_y _ _ _ (by omega) (by omega) ub1 ub2 ub3).mono ?_; rintro e w4 ⟨rfl, b4⟩; obtain ⟨c4, f4⟩ := bcell b4; have z4 : w.heap.size < w4.heap.size := (by have := b4.size; omega))
        | (go_at_call 26; refine (runpack_y _ _ _ (by omega) (by omega) ub1 ub2 ub3).mono ?_; rintro e w5 ⟨rfl, b5⟩; obtain ⟨c5, f5⟩ := bcell b5; have z5 : w4.heap.size < w5.heap.size := (by have := b5.size; simp at this; omega)))
      go_ret
      have t1 : Below w.heap.size w w1 := (Joins.below_alloc1 w _).trans (b1.mono (by simp))
      have t2 := t1.trans (b2.mono t1.size)
      have t3 := t2.trans (b3.mono t2.size)
      have t4 := t3.trans (b4.mono t3.size)
      have t5 := (t4.alloc t4.size _).trans (b5.mono (Nat.le_trans t4.size (by simp)))
      exact ⟨rfl, t5.alloc t5.size _⟩

/-- What was packed is unpacked. -/
theorem unpack_pack (c f s h a l : Int) (m n : Bool) (w : World) (hB : hdB c f s h a l = true) :
    Calls Try.prog 25 #[.int .u64 (packA c f s h a m n), .int .u64 l] w fun e w' => e = .returned (.tuple #[hdV c f s h a l m n, .int .i64 0]) ∧ Below w.heap.size w w' := by
  obtain ⟨⟨h1, h2⟩, ⟨h5, h6⟩, ⟨h7, h8⟩, ⟨h9, h10⟩, ⟨h11, h12⟩, hf⟩ := (hdB_iff _ _ _ _ _ _).1 hB
  have hb := packA_bd c f s h a m n h1 h2 (by omega) (by omega) h5 h6 h7 h8 h9 h10
  obtain ⟨e1, e2, e3, e4, e5, e6, e7⟩ := u_pack c f s h a m n h1 h2 (by omega) (by omega) h5 h6 h7 h8 h9 h10
  have := unpack_y (packA c f s h a m n) l w hb.1 h11 hb.2 h12 (by rw [e1, e2, e3, e4, e5]; exact hB)
  rw [e1, e2, e3, e4, e5, e6, e7] at this
  exact this
/-- What was unpacked is packed. -/
theorem pack_unpack (x y : Int) (w : World) (hx : 0 ≤ x) (u1 : x ≤ 70368744177663) (u3 : hdB (uC x) (uF x) (uS x) (uH x) (uA x) y = true) :
    Calls Try.prog 23 #[hdV (uC x) (uF x) (uS x) (uH x) (uA x) y (uM x) (uN x)] w fun e w' => e = .returned (.tuple #[.int .u64 x, .int .u64 y, .int .i64 0]) ∧ Below w.heap.size w w' := by
  have := pack_y (uC x) (uF x) (uS x) (uH x) (uA x) y (uM x) (uN x) w u3
  rw [pack_u x hx u1] at this
  exact this

set_option maxHeartbeats 2000000 in
set_option maxRecDepth 100000 in
theorem WordsRound_walk {H : Type} {enc : TypeId × Value → H} {r : Reach} {b0 base : Nat} {spare : Nat → Bool} {held : Bool} {d : DataW H} {p : List MemPlace} (v : Value) (x y : Int) (w : World)
    (hv : Value.okWide Try.prog w r b0 37 v) (hh : DataW.Trod enc Try.prog w base spare held 37 v d p) (w1 : (Lit.int .u64 x).wf = true) (w2 : (Lit.int .u64 y).wf = true) :
    Calls Try.prog 6 #[v, .int .u64 x, .int .u64 y] w fun e w' => e = .returned (.bool true) ∧ Below w.heap.size w w' := by
  obtain ⟨c, f, s, h, a, l, m, n, rfl⟩ := open_hdr hv hh
  clear hv hh
  obtain ⟨x1, x2⟩ := bounds_u64 w1
  obtain ⟨y1, y2⟩ := bounds_u64 w2
  clear w1 w2
  cases uB : unB x y
  · cases hB : hdB c f s h a l
    · go_enter Try.func6, Try.ntmps6
      go_wp2_with (first
        | (go_at_call 8; refine (works_any _).mono ?_; rintro e w1 ⟨rfl, b1⟩; obtain ⟨c1, f1⟩ := bcell b1; have z1 : w.heap.size < w1.heap.size := (by have := b1.size; simp at this; omega))
        | (go_at_call 23; refine (pack_n _ _ _ _ _ _ _ _ _ hB).mono ?_; rintro e w2 ⟨rfl, b2⟩; obtain ⟨c2, f2⟩ := bcell b2; have z2 : w.heap.size < w2.heap.size := (by have := b2.size; omega))
        | (go_at_call 25; refine (unpack_n _ _ _ (by omega) (by omega) (by omega) uB).mono ?_; rintro e w4 ⟨rfl, b4⟩; obtain ⟨c4, f4⟩ := bcell b4; have z4 : w.heap.size < w4.heap.size := (by have := b4.size; omega)))
      go_ret
      have t1 : Below w.heap.size w w1 := (Joins.below_alloc1 w _).trans (b1.mono (by simp))
      have t2 := t1.trans (b2.mono t1.size)
      have t4 := t2.trans (b4.mono t2.size)
      exact ⟨rfl, t4.alloc t4.size _⟩
    · go_enter Try.func6, Try.ntmps6
      go_wp2_with (first
        | (go_at_call 8; refine (works_any _).mono ?_; rintro e w1 ⟨rfl, b1⟩; obtain ⟨c1, f1⟩ := bcell b1; have z1 : w.heap.size < w1.heap.size := (by have := b1.size; simp at this; omega))
        | (go_at_call 23; refine (pack_y _ _ _ _ _ _ _ _ _ hB).mono ?_; rintro e w2 ⟨rfl, b2⟩; obtain ⟨c2, f2⟩ := bcell b2; have z2 : w.heap.size < w2.heap.size := (by have := b2.size; omega))
        | (go_at_call_of 25 (Value.int .u64 (packA c f s h a m n)); refine (unpack_pack c f s h a l m n _ hB).mono ?_; rintro e w3 ⟨rfl, b3⟩; obtain ⟨c3, f3⟩ := bcell b3; have z3 : w.heap.size < w3.heap.size := (by have := b3.size; omega))
        | (go_at_call_of 25 (Value.int .u64 x); refine (unpack_n _ _ _ (by omega) (by omega) (by omega) uB).mono ?_; rintro e w4 ⟨rfl, b4⟩; obtain ⟨c4, f4⟩ := bcell b4; have z4 : w.heap.size < w4.heap.size := (by have := b4.size; simp at this; omega)))
      go_ret
      have t1 : Below w.heap.size w w1 := (Joins.below_alloc1 w _).trans (b1.mono (by simp))
      have t2 := t1.trans (b2.mono t1.size)
      have t3 := t2.trans (b3.mono t2.size)
      have t4 := (t3.alloc t3.size _).trans (b4.mono (Nat.le_trans t3.size (by simp)))
      exact ⟨rfl, t4.alloc t4.size _⟩
  · obtain ⟨ub1, ub2, ub3⟩ := (unB_iff x y).1 uB
    clear uB
    cases hB : hdB c f s h a l
    · go_enter Try.func6, Try.ntmps6
      go_wp2_with (first
        | (go_at_call 8; refine (works_any _).mono ?_; rintro e w1 ⟨rfl, b1⟩; obtain ⟨c1, f1⟩ := bcell b1; have z1 : w.heap.size < w1.heap.size := (by have := b1.size; simp at this; omega))
        | (go_at_call_of 23 (Value.agg #[Value.int .i64 c, Value.int .u8 f, Value.int .i64 s, Value.int .i64 h, Value.int .i64 a, Value.int .i64 l, Value.bool m, Value.bool n]); refine (pack_n _ _ _ _ _ _ _ _ _ hB).mono ?_; rintro e w2 ⟨rfl, b2⟩; obtain ⟨c2, f2⟩ := bcell b2; have z2 : w.heap.size < w2.heap.size := (by have := b2.size; omega))
        | (go_at_call 25; refine (unpack_y _ _ _ (by omega) (by omega) ub1 ub2 ub3).mono ?_; rintro e w4 ⟨rfl, b4⟩; obtain ⟨c4, f4⟩ := bcell b4; have z4 : w.heap.size < w4.heap.size := (by have := b4.size; omega))
        | (go_at_call_of 23 (Value.agg #[Value.int .i64 (uC x), Value.int .u8 (uF x), Value.int .i64 (uS x), Value.int .i64 (uH x), Value.int .i64 (uA x), Value.int .i64 y, Value.bool (uM x), Value.bool (uN x)]); refine (pack_unpack x y _ (by omega) ub1 ub3).mono ?_; rintro e w5 ⟨rfl, b5⟩))
      go_ret
      have t1 : Below w.heap.size w w1 := (Joins.below_alloc1 w _).trans (b1.mono (by simp))
      have t2 := t1.trans (b2.mono t1.size)
      have t4 := t2.trans (b4.mono t2.size)
      exact ⟨rfl, (t4.alloc t4.size _).trans (b5.mono (Nat.le_trans t4.size (by simp)))⟩
    · go_enter Try.func6, Try.ntmps6
      go_wp2_with (first
        | (go_at_call 8; refine (works_any _).mono ?_; rintro e w1 ⟨rfl, b1⟩; obtain ⟨c1, f1⟩ := bcell b1; have z1 : w.heap.size < w1.heap.size := (by have := b1.size; simp at this; omega))
        | (go_at_call_of 23 (Value.agg #[Value.int .i64 c, Value.int .u8 f, Value.int .i64 s, Value.int .i64 h, Value.int .i64 a, Value.int .i64 l, Value.bool m, Value.bool n]); refine (pack_y _ _ _ _ _ _ _ _ _ hB).mono ?_; rintro e w2 ⟨rfl, b2⟩; obtain ⟨c2, f2⟩ := bcell b2; have z2 : w.heap.size < w2.heap.size := (by have := b2.size; omega))
        | (go_at_call_of 25 (Value.int .u64 (packA c f s h a m n)); refine (unpack_pack c f s h a l m n _ hB).mono ?_; rintro e w3 ⟨rfl, b3⟩; obtain ⟨c3, f3⟩ := bcell b3; have z3 : w.heap.size < w3.heap.size := (by have := b3.size; omega))
        | (go_at_call_of 25 (Value.int .u64 x); refine (unpack_y _ _ _ (by omega) (by omega) ub1 ub2 ub3).mono ?_; rintro e w4 ⟨rfl, b4⟩; obtain ⟨c4, f4⟩ := bcell b4; have z4 : w.heap.size < w4.heap.size := (by have := b4.size; simp at this; omega))
        | (go_at_call_of 23 (Value.agg #[Value.int .i64 (uC x), Value.int .u8 (uF x), Value.int .i64 (uS x), Value.int .i64 (uH x), Value.int .i64 (uA x), Value.int .i64 y, Value.bool (uM x), Value.bool (uN x)]); refine (pack_unpack x y _ (by omega) ub1 ub3).mono ?_; rintro e w5 ⟨rfl, b5⟩))
      go_ret
      have t1 : Below w.heap.size w w1 := (Joins.below_alloc1 w _).trans (b1.mono (by simp))
      have t2 := t1.trans (b2.mono t1.size)
      have t3 := t2.trans (b3.mono t2.size)
      have t4 := (t3.alloc t3.size _).trans (b4.mono (Nat.le_trans t3.size (by simp)))
      exact ⟨rfl, (t4.alloc t4.size _).trans (b5.mono (Nat.le_trans t4.size (by simp)))⟩
end Go.Proofs.Ytgefodobcibgpaa.Wk
