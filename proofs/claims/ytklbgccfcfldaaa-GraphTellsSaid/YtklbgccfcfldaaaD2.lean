/- New: an empty heap of sizes that may be. -/
import Derived.Test.YtklbgccfcfldaaaD3
set_option linter.unusedVariables false
namespace Go.Proofs.Ytklbgccfcfldaaa.Wk
open Go.ChangeShapes Go.WideShapes Go.ChangeAt Go.RowKit M

theorem box5 {w : World} {b : Nat} {e : TypeId} {a0 a1 a2 a3 a4 : Value} (h : w.heap[b]? = some (.cells #[a0, a1, a2, a3, a4] e (0, 0))) : w.cell? ⟨b, 0, none⟩ = some a0 ∧ w.cell? ⟨b, 1, none⟩ = some a1 ∧ w.cell? ⟨b, 2, none⟩ = some a2 ∧ w.cell? ⟨b, 3, none⟩ = some a3 ∧ w.cell? ⟨b, 4, none⟩ = some a4 :=
  ⟨cell_blk h 0, cell_blk h 1, cell_blk h 2, cell_blk h 3, cell_blk h 4⟩
theorem make_u64 (n : Nat) (hn : n ≤ 1073741824) : ∀ W : World, (Instr.makeSlice 42 (.int .i64 (n : Int)) (.int .i64 (n : Int))).run Try.prog W = .ok (.slice (some ⟨W.heap.size, 0, none⟩) n n) (W.alloc (.cells (Array.ofFn (n := n) fun _ => .int .u64 0) 32)) := by
  obtain ⟨i0, hi, hz0, hz1, hz2⟩ := info_parts (show (Try.prog.info? 32).map (fun i => (i.zero, i.size, i.bytes)) = some (some (.int .u64 0), 1, 8) by kernel_rfl)
  intro W
  have hr := run_make (P := Try.prog) W 42 32 i0 (.int .u64 0) Try.underlying42 hi hz0 .i64 .i64 n n (by omega) (Int.le_refl _) (by rw [hz2]; omega) (by omega)
  simp only [Int.toNat_natCast, hz1, Nat.mul_one] at hr
  have e : madeCells (Value.int .u64 0).cells n = Array.ofFn (n := n) fun _ => Value.int .u64 0 := by
    apply Array.ext'
    show (madeCells #[Value.int .u64 0] n).toList = _
    rw [toList_madeCells_one, Array.toList_ofFn]
    apply List.ext_getElem?
    intro i
    rw [List.getElem?_ofFn]
    by_cases h : i < n <;> simp [h]
  rw [hr, e]

theorem index72 (a0 a1 a2 a3 a4 a5 : Int) (W : World) : ∀ k : Nat, k < 6 →
    (Instr.index 72 (.agg #[.int .i64 a0, .int .i64 a1, .int .i64 a2, .int .i64 a3, .int .i64 a4, .int .i64 a5]) (.int .i64 (k : Int))).run Try.prog W = .ok (.int .i64 (if k = 0 then a0 else if k = 1 then a1 else if k = 2 then a2 else if k = 3 then a3 else if k = 4 then a4 else a5)) W := by
  obtain ⟨i0, hi, hz0, hz1, hz2⟩ := info_parts (show (Try.prog.info? 3).map (fun i => (i.zero, i.size, i.bytes)) = some (some (.int .i64 0), 1, 8) by kernel_rfl)
  intro k hk
  rcases (by omega : k = 0 ∨ k = 1 ∨ k = 2 ∨ k = 3 ∨ k = 4 ∨ k = 5) with rfl | rfl | rfl | rfl | rfl | rfl
  all_goals simp [Instr.index, run_underlying Try.underlying72, asIntOf, sizeOf, typeInfo, hi, hz1, part, isAgg, run_underlying Try.underlying3]

theorem y_heap {X : World} {p : Nat} {C : Array Value} {e : TypeId} (h : X.heap[p]? = some (.cells C e (0, 0))) (s : Value) (O : Obj) : ((X.setCell ⟨p, 26, none⟩ s).alloc O).drew.heap[p]? = some (.cells (C.setIfInBounds 26 s) e (0, 0)) := by
  show ((X.setCell ⟨p, 26, none⟩ s).alloc O).heap[p]? = _
  rw [Below.heap_alloc _ _ _ (by rw [size_set]; exact blk_lt h)]
  exact blk_set h 26 s
theorem y_cell {X : World} {p : Nat} {C : Array Value} {e : TypeId} (h : X.heap[p]? = some (.cells C e (0, 0))) (s : Value) (O : Obj) (i : Nat) (hi : 26 ≠ i) : ((X.setCell ⟨p, 26, none⟩ s).alloc O).drew.cell? ⟨p, i, none⟩ = C[i]? := by
  rw [cell_blk (y_heap h s O), Array.getElem?_setIfInBounds_ne hi]
theorem y_free {X : World} {p : Nat} {C : Array Value} {e : TypeId} (h : X.heap[p]? = some (.cells C e (0, 0))) (s : Value) (O : Obj) (i : Nat) : ((X.setCell ⟨p, 26, none⟩ s).alloc O).drew.frozen? ⟨p, i, none⟩ = false := frozen_blk (y_heap h s O) i

set_option maxHeartbeats 8000000 in
set_option maxRecDepth 100000 in
theorem new_y (own : Own) (ed su bo pi te : Nat) (h : Sz ed su bo pi te) (w : World) (ho : Owns own w) :
    Calls Try.prog 6 #[szV ed su bo pi te] w fun e w' => ∃ p own' g, e = .returned (.tuple #[.pointer (some ⟨p, 0, none⟩), .int .i64 0]) ∧ (Rep own' w' p (newS ed su bo pi) g ∧ Fr p own w own' w' noE) ∧ w.heap.size ≤ p ∧ Below w.heap.size w w' := by
  have HOW := Lib.hid (And.intro ho h)
  obtain ⟨⟨h1, h2⟩, ⟨h3, h4⟩, ⟨h5, h6⟩, h7, h8⟩ := id h
  have HF := Lib.hid (fun X => fits_y ed su bo pi te h X)
  have a2 : (ed : Int) ≤ 65536 := by omega
  have a4 : (su : Int) ≤ 65536 := by omega
  have a6 : (bo : Int) ≤ 1048576 := by omega
  have a7 : (pi : Int) ≤ 65536 := by omega
  obtain ⟨Z, hZ⟩ : ∃ Z, Z = zOf Try.prog 71 := ⟨_, rfl⟩
  have hbz := run_build_heap
  rw [← hZ] at hbz
  have HBZ := Lib.hid hbz
  have HZ := Lib.hid hZ
  clear hbz hZ h
  obtain ⟨W, hW⟩ : ∃ W, W = w.alloc (.cells #[.int .i64 ed, .int .i64 su, .int .i64 bo, .int .i64 pi, .int .i64 te] 30) := ⟨_, rfl⟩
  have HW := Lib.hid hW
  go_enter Try.func6, Try.ntmps6
  go_wp2_with (first
    | (go_at_call 20; rw [← hW]; refine (HF.out _).mono ?_; rintro e w1 ⟨rfl, b1⟩; have B1 := Lib.hid b1; clear hW
       obtain ⟨y0, y1, y2, y3, y4⟩ := box5 (keep_box HW.out (b1.alloc b1.size (.cells Z 71)))
       clear b1)
    | (refine wpList_build0 _ rfl 71 rfl _ (HBZ.out _) ?_))
  obtain ⟨p, hp⟩ : ∃ p, p = w1.heap.size := ⟨_, rfl⟩
  have hbelW : Below w.heap.size w w1 := below_new HW.out B1.out
  have hN0 : Nw w ed su bo pi p (fun _ => 0) 0 (w1.alloc (.cells Z 71)) := by
    refine ⟨by rw [hp]; exact hbelW.size, ?_, fun j hj => by omega, fun i j hi => by omega, hbelW.alloc hbelW.size _⟩
    rw [hp, HZ.out, zc_eq, nc_0 ed su bo pi (fun _ => 0)]
    exact heap_alloc_new w1 _
  have HN0 := Lib.hid hN0
  rw [← hp]
  clear hN0 hbelW hp
  generalize w1.alloc (.cells Z 71) = X0 at *
  go_loopw [5, 33] (fun ev iv wr => ∃ (k : Nat) (fb : Nat → Nat), k ≤ 6 ∧ iv = .int .i64 k ∧ ev = .int .i64 (bg ed su bo pi k) ∧ Nw w ed su bo pi p fb k wr) (fun _ v _ => 6 - (intOf v).toNat)
  case atStart => exact ⟨0, _, by omega, rfl, rfl, HN0.out⟩
  case round =>
    obtain ⟨k, fb, hk, rfl, rfl, hN⟩ := hrel
    have HN := Lib.hid hN
    clear hN
    obtain ⟨b, hb⟩ : ∃ b, bg ed su bo pi k = b := ⟨_, rfl⟩
    obtain ⟨b', hb'⟩ : ∃ b', bg ed su bo pi (k + 1) = b' := ⟨_, rfl⟩
    have HST := Lib.hid (fun X m (q : Nw w ed su bo pi p fb k X) (q1 : k < 6) (q2 : X.heap[m]? = some (.map #[] 0)) (q3 : p < m) (q4 : ∀ j, j < k → fb j ≠ m) => q.step q1 q2 q3 q4)
    rw [hb, hb'] at HST
    have hbb : b ≤ 4000000 ∧ b' ≤ 4000000 := by rw [← hb, ← hb']; unfold bg newN; constructor <;> (repeat' split) <;> omega
    rcases (by omega : k = 0 ∨ k = 1 ∨ k = 2 ∨ k = 3 ∨ k = 4 ∨ k = 5 ∨ k = 6) with rfl | rfl | rfl | rfl | rfl | rfl | rfl
    · have hs : (b' : Int) = (b : Int) + 0 := by rw [← hb, ← hb']; (try simp [bg]) <;> (try unfold newN) <;> omega
      have hix : ∀ W, (Instr.index 72 (.agg #[.int .i64 0, .int .i64 ed, .int .i64 su, .int .i64 su, .int .i64 ((bo : Int) + (ed : Int) + 2 * (su : Int)), .int .i64 pi]) (.int .i64 0)).run Try.prog W = .ok (.int .i64 0) W := fun W => by simpa using index72 0 ed su su ((bo : Int) + (ed : Int) + 2 * (su : Int)) pi W 0 (by omega)
      have HS := Lib.hid hs
      have HB' := Lib.hid hb'
      clear hs hb'
      go_wp2
      go_region_held3 (fun X => True) (first | exact trivial) (first | (go_at_call 21; refine (emptyArea_any _ _ _).mono ?_; rintro e w2 ⟨m, rfl, hm1, hm2, hm3⟩; have HN2 := Lib.hid (HN.out.below ((Below.drew (Below.refl _ wr)).trans hm3)); obtain ⟨c0, f0⟩ := HN2.out.at 2 (by omega); obtain ⟨c1, f1⟩ := HN2.out.at 3 (by omega); obtain ⟨c2, f2⟩ := HN2.out.at 4 (by omega); obtain ⟨c3, f3⟩ := HN2.out.at 5 (by omega); have HM := Lib.hid (And.intro hm1 hm2); clear hm1 hm2 hm3))
      go_wp2
      have hpm : p < m := Nat.lt_of_lt_of_le (blk_lt HN.out.cell) HM.out.1
      have hN3 := HST.out _ m HN2.out (by omega) HM.out.2 hpm (fun j hj e => by have := blk_lt (HN.out.map j hj).1; have := HM.out.1; simp only [World.size_drew] at this; omega)
      go_roundw
      case rel =>
        have e : b' = b := by have := HS.out; omega
        subst e
        exact ⟨1, _, by omega, rfl, by rw [HB'.out], hN3⟩
      case measure => simp [intOf]
    · have hs : (b' : Int) = (b : Int) + (ed : Int) := by rw [← hb, ← hb']; (try simp [bg]) <;> (try unfold newN) <;> omega
      have hix : ∀ W, (Instr.index 72 (.agg #[.int .i64 0, .int .i64 ed, .int .i64 su, .int .i64 su, .int .i64 ((bo : Int) + (ed : Int) + 2 * (su : Int)), .int .i64 pi]) (.int .i64 1)).run Try.prog W = .ok (.int .i64 (ed : Int)) W := fun W => by simpa using index72 0 ed su su ((bo : Int) + (ed : Int) + 2 * (su : Int)) pi W 1 (by omega)
      have HS := Lib.hid hs
      have HB' := Lib.hid hb'
      clear hs hb'
      go_wp2
      go_region_held3 (fun X => True) (first | exact trivial) (first | (go_at_call 21; refine (emptyArea_any _ _ _).mono ?_; rintro e w2 ⟨m, rfl, hm1, hm2, hm3⟩; have HN2 := Lib.hid (HN.out.below ((Below.drew (Below.refl _ wr)).trans hm3)); obtain ⟨c0, f0⟩ := HN2.out.at 6 (by omega); obtain ⟨c1, f1⟩ := HN2.out.at 7 (by omega); obtain ⟨c2, f2⟩ := HN2.out.at 8 (by omega); obtain ⟨c3, f3⟩ := HN2.out.at 9 (by omega); have HM := Lib.hid (And.intro hm1 hm2); clear hm1 hm2 hm3))
      go_wp2
      have hpm : p < m := Nat.lt_of_lt_of_le (blk_lt HN.out.cell) HM.out.1
      have hN3 := HST.out _ m HN2.out (by omega) HM.out.2 hpm (fun j hj e => by have := blk_lt (HN.out.map j hj).1; have := HM.out.1; simp only [World.size_drew] at this; omega)
      go_roundw
      case rel =>
        rw [← HS.out]
        exact ⟨2, _, by omega, rfl, by rw [HB'.out], hN3⟩
      case measure => simp [intOf]
    · have hs : (b' : Int) = (b : Int) + (su : Int) := by rw [← hb, ← hb']; (try simp [bg]) <;> (try unfold newN) <;> omega
      have hix : ∀ W, (Instr.index 72 (.agg #[.int .i64 0, .int .i64 ed, .int .i64 su, .int .i64 su, .int .i64 ((bo : Int) + (ed : Int) + 2 * (su : Int)), .int .i64 pi]) (.int .i64 2)).run Try.prog W = .ok (.int .i64 (su : Int)) W := fun W => by simpa using index72 0 ed su su ((bo : Int) + (ed : Int) + 2 * (su : Int)) pi W 2 (by omega)
      have HS := Lib.hid hs
      have HB' := Lib.hid hb'
      clear hs hb'
      go_wp2
      go_region_held3 (fun X => True) (first | exact trivial) (first | (go_at_call 21; refine (emptyArea_any _ _ _).mono ?_; rintro e w2 ⟨m, rfl, hm1, hm2, hm3⟩; have HN2 := Lib.hid (HN.out.below ((Below.drew (Below.refl _ wr)).trans hm3)); obtain ⟨c0, f0⟩ := HN2.out.at 10 (by omega); obtain ⟨c1, f1⟩ := HN2.out.at 11 (by omega); obtain ⟨c2, f2⟩ := HN2.out.at 12 (by omega); obtain ⟨c3, f3⟩ := HN2.out.at 13 (by omega); have HM := Lib.hid (And.intro hm1 hm2); clear hm1 hm2 hm3))
      go_wp2
      have hpm : p < m := Nat.lt_of_lt_of_le (blk_lt HN.out.cell) HM.out.1
      have hN3 := HST.out _ m HN2.out (by omega) HM.out.2 hpm (fun j hj e => by have := blk_lt (HN.out.map j hj).1; have := HM.out.1; simp only [World.size_drew] at this; omega)
      go_roundw
      case rel =>
        rw [← HS.out]
        exact ⟨3, _, by omega, rfl, by rw [HB'.out], hN3⟩
      case measure => simp [intOf]
    · have hs : (b' : Int) = (b : Int) + (su : Int) := by rw [← hb, ← hb']; (try simp [bg]) <;> (try unfold newN) <;> omega
      have hix : ∀ W, (Instr.index 72 (.agg #[.int .i64 0, .int .i64 ed, .int .i64 su, .int .i64 su, .int .i64 ((bo : Int) + (ed : Int) + 2 * (su : Int)), .int .i64 pi]) (.int .i64 3)).run Try.prog W = .ok (.int .i64 (su : Int)) W := fun W => by simpa using index72 0 ed su su ((bo : Int) + (ed : Int) + 2 * (su : Int)) pi W 3 (by omega)
      have HS := Lib.hid hs
      have HB' := Lib.hid hb'
      clear hs hb'
      go_wp2
      go_region_held3 (fun X => True) (first | exact trivial) (first | (go_at_call 21; refine (emptyArea_any _ _ _).mono ?_; rintro e w2 ⟨m, rfl, hm1, hm2, hm3⟩; have HN2 := Lib.hid (HN.out.below ((Below.drew (Below.refl _ wr)).trans hm3)); obtain ⟨c0, f0⟩ := HN2.out.at 14 (by omega); obtain ⟨c1, f1⟩ := HN2.out.at 15 (by omega); obtain ⟨c2, f2⟩ := HN2.out.at 16 (by omega); obtain ⟨c3, f3⟩ := HN2.out.at 17 (by omega); have HM := Lib.hid (And.intro hm1 hm2); clear hm1 hm2 hm3))
      go_wp2
      have hpm : p < m := Nat.lt_of_lt_of_le (blk_lt HN.out.cell) HM.out.1
      have hN3 := HST.out _ m HN2.out (by omega) HM.out.2 hpm (fun j hj e => by have := blk_lt (HN.out.map j hj).1; have := HM.out.1; simp only [World.size_drew] at this; omega)
      go_roundw
      case rel =>
        rw [← HS.out]
        exact ⟨4, _, by omega, rfl, by rw [HB'.out], hN3⟩
      case measure => simp [intOf]
    · have hs : (b' : Int) = (b : Int) + ((bo : Int) + (ed : Int) + 2 * (su : Int)) := by rw [← hb, ← hb']; (try simp [bg]) <;> (try unfold newN) <;> omega
      have hix : ∀ W, (Instr.index 72 (.agg #[.int .i64 0, .int .i64 ed, .int .i64 su, .int .i64 su, .int .i64 ((bo : Int) + (ed : Int) + 2 * (su : Int)), .int .i64 pi]) (.int .i64 4)).run Try.prog W = .ok (.int .i64 ((bo : Int) + (ed : Int) + 2 * (su : Int))) W := fun W => by simpa using index72 0 ed su su ((bo : Int) + (ed : Int) + 2 * (su : Int)) pi W 4 (by omega)
      have HS := Lib.hid hs
      have HB' := Lib.hid hb'
      clear hs hb'
      go_wp2
      go_region_held3 (fun X => True) (first | exact trivial) (first | (go_at_call 21; refine (emptyArea_any _ _ _).mono ?_; rintro e w2 ⟨m, rfl, hm1, hm2, hm3⟩; have HN2 := Lib.hid (HN.out.below ((Below.drew (Below.refl _ wr)).trans hm3)); obtain ⟨c0, f0⟩ := HN2.out.at 18 (by omega); obtain ⟨c1, f1⟩ := HN2.out.at 19 (by omega); obtain ⟨c2, f2⟩ := HN2.out.at 20 (by omega); obtain ⟨c3, f3⟩ := HN2.out.at 21 (by omega); have HM := Lib.hid (And.intro hm1 hm2); clear hm1 hm2 hm3))
      go_wp2
      have hpm : p < m := Nat.lt_of_lt_of_le (blk_lt HN.out.cell) HM.out.1
      have hN3 := HST.out _ m HN2.out (by omega) HM.out.2 hpm (fun j hj e => by have := blk_lt (HN.out.map j hj).1; have := HM.out.1; simp only [World.size_drew] at this; omega)
      go_roundw
      case rel =>
        rw [← HS.out]
        exact ⟨5, _, by omega, rfl, by rw [HB'.out], hN3⟩
      case measure => simp [intOf]
    · have hs : (b' : Int) = (b : Int) + (pi : Int) := by rw [← hb, ← hb']; (try simp [bg]) <;> (try unfold newN) <;> omega
      have hix : ∀ W, (Instr.index 72 (.agg #[.int .i64 0, .int .i64 ed, .int .i64 su, .int .i64 su, .int .i64 ((bo : Int) + (ed : Int) + 2 * (su : Int)), .int .i64 pi]) (.int .i64 5)).run Try.prog W = .ok (.int .i64 (pi : Int)) W := fun W => by simpa using index72 0 ed su su ((bo : Int) + (ed : Int) + 2 * (su : Int)) pi W 5 (by omega)
      have HS := Lib.hid hs
      have HB' := Lib.hid hb'
      clear hs hb'
      go_wp2
      go_region_held3 (fun X => True) (first | exact trivial) (first | (go_at_call 21; refine (emptyArea_any _ _ _).mono ?_; rintro e w2 ⟨m, rfl, hm1, hm2, hm3⟩; have HN2 := Lib.hid (HN.out.below ((Below.drew (Below.refl _ wr)).trans hm3)); obtain ⟨c0, f0⟩ := HN2.out.at 22 (by omega); obtain ⟨c1, f1⟩ := HN2.out.at 23 (by omega); obtain ⟨c2, f2⟩ := HN2.out.at 24 (by omega); obtain ⟨c3, f3⟩ := HN2.out.at 25 (by omega); have HM := Lib.hid (And.intro hm1 hm2); clear hm1 hm2 hm3))
      go_wp2
      have hpm : p < m := Nat.lt_of_lt_of_le (blk_lt HN.out.cell) HM.out.1
      have hN3 := HST.out _ m HN2.out (by omega) HM.out.2 hpm (fun j hj e => by have := blk_lt (HN.out.map j hj).1; have := HM.out.1; simp only [World.size_drew] at this; omega)
      go_roundw
      case rel =>
        rw [← HS.out]
        exact ⟨6, _, by omega, rfl, by rw [HB'.out], hN3⟩
      case measure => simp [intOf]
    · have e22 : nc ed su bo pi fb 6 22 = .int .i64 (bg ed su bo pi 5) := by simp [nc]
      have e24 : nc ed su bo pi fb 6 24 = .int .i64 (bg ed su bo pi 6) := by simp [nc]
      obtain ⟨c22, f22⟩ := HN.out.at 22 (by omega)
      obtain ⟨c23, f23⟩ := HN.out.at 23 (by omega)
      obtain ⟨c24, f24⟩ := HN.out.at 24 (by omega)
      obtain ⟨c26, f26⟩ := HN.out.at 26 (by omega)
      obtain ⟨c0, f0⟩ := HN.out.at 0 (by omega)
      obtain ⟨c1, f1⟩ := HN.out.at 1 (by omega)
      rw [e22] at c22
      rw [e24, hb] at c24
      obtain ⟨b5, hb5⟩ : ∃ b5, bg ed su bo pi 5 = b5 := ⟨_, rfl⟩
      rw [hb5] at c22
      have HB5 := Lib.hid hb5
      have hpl := blk_lt HN.out.cell
      clear hb' HST e22 e24 hb5
      have hm1 := make_u64 b (by omega)
      have hm2 := make_u64 ((b + 63) / 64) (by omega)
      have hd : (((b + 63) / 64 : Nat) : Int) = ((b : Int) + 64 - 1) / 64 := by omega
      rw [hd] at hm2
      clear hd
      go_wp2
      have hN := HN.out
      clear HN
      obtain ⟨X1, hX1⟩ : ∃ X1, X1 = wr.setCell ⟨p, 23, none⟩ (.int .i64 b) := ⟨_, rfl⟩
      rw [← hX1]
      have hXc : X1.heap[p]? = some (.cells ((Array.ofFn (n := 4192) fun i => nc ed su bo pi fb 6 i).setIfInBounds 23 (.int .i64 b)) 71 (0, 0)) := by rw [hX1]; exact blk_set hN.cell 23 _
      have hXs : X1.heap.size = wr.heap.size := by rw [hX1]; exact size_set _ _ _
      obtain ⟨C1, hC1⟩ : ∃ C1, C1 = (Array.ofFn (n := 4192) fun i => nc ed su bo pi fb 6 i).setIfInBounds 23 (.int .i64 b) := ⟨_, rfl⟩
      rw [← hC1] at hXc
      have q22 : C1[22]? = some (.int .i64 b5) := by rw [hC1, Array.getElem?_setIfInBounds_ne (by omega)]; rw [← cell_blk hN.cell 22]; exact c22
      have q24 : C1[24]? = some (.int .i64 b) := by rw [hC1, Array.getElem?_setIfInBounds_ne (by omega)]; rw [← cell_blk hN.cell 24]; exact c24
      have q26 : C1[26]? = some (nc ed su bo pi fb 6 26) := by rw [hC1, Array.getElem?_setIfInBounds_ne (by omega)]; rw [← cell_blk hN.cell 26]; exact c26
      have q0 : C1[0]? = some (nc ed su bo pi fb 6 0) := by rw [hC1, Array.getElem?_setIfInBounds_ne (by omega)]; rw [← cell_blk hN.cell 0]; exact c0
      have q1 : C1[1]? = some (nc ed su bo pi fb 6 1) := by rw [hC1, Array.getElem?_setIfInBounds_ne (by omega)]; rw [← cell_blk hN.cell 1]; exact c1
      have k22 : X1.cell? ⟨p, 22, none⟩ = some (.int .i64 b5) := by rw [cell_blk hXc]; exact q22
      have k24 : X1.cell? ⟨p, 24, none⟩ = some (.int .i64 b) := by rw [cell_blk hXc]; exact q24
      have k26 : X1.cell? ⟨p, 26, none⟩ = some (nc ed su bo pi fb 6 26) := by rw [cell_blk hXc]; exact q26
      have g26 : X1.frozen? ⟨p, 26, none⟩ = false := frozen_blk hXc 26
      have hpl1 : p < X1.heap.size := blk_lt hXc
      have HX1 := Lib.hid (And.intro hX1 (And.intro hC1 hXc))
      have HQ := Lib.hid (And.intro q22 (And.intro q24 (And.intro q0 q1)))
      have HNN := Lib.hid hN
      have HXS := Lib.hid hXs
      clear hX1 hN hC1 hXc hXs c22 c23 c24 c26 c0 c1 f22 f23 f24 f26 f0 f1 hpl q22 q24 q26 q0 q1
      go_region_held3 (fun X => X.cell? ⟨p, 22, none⟩ = some (.int .i64 b5) ∧ X.cell? ⟨p, 24, none⟩ = some (.int .i64 b))
        (first
          | with_reducible exact ⟨(y_cell HX1.out.2.2 _ _ 22 (by omega)).trans HQ.out.1, (y_cell HX1.out.2.2 _ _ 24 (by omega)).trans HQ.out.2.1⟩
          | go_keep) (first | fail)
      obtain ⟨Y, hY⟩ : ∃ Y, Y = ((X1.setCell ⟨p, 26, none⟩ (.slice (some ⟨X1.heap.size, 0, none⟩) 1 1)).alloc (.cells #[.int .i64 b5, .int .i64 b] 76)).drew := ⟨_, rfl⟩
      rw [← hY]
      have y0 : Y.cell? ⟨p, 0, none⟩ = some (nc ed su bo pi fb 6 0) := by rw [hY, y_cell HX1.out.2.2 _ _ 0 (by omega)]; exact HQ.out.2.2.1
      have y1 : Y.cell? ⟨p, 1, none⟩ = some (nc ed su bo pi fb 6 1) := by rw [hY, y_cell HX1.out.2.2 _ _ 1 (by omega)]; exact HQ.out.2.2.2
      have yf : ∀ i, Y.frozen? ⟨p, i, none⟩ = false := fun i => by rw [hY]; exact y_free HX1.out.2.2 _ _ i
      have yf0 := yf 0
      have yf1 := yf 1
      have hpY : p < Y.heap.size := by rw [hY]; simp [size_set]; omega
      have HY := Lib.hid hY
      clear hY yf k22 k24 k26 g26 hpl1
      go_wp2
      go_ret2
      exact ⟨p, _, _, rfl, new_rep HOW.out HNN.out hb HB5.out HX1.out.1 HY.out, new_bel (C := #[]) HNN.out HX1.out.1 HY.out⟩
end Go.Proofs.Ytklbgccfcfldaaa.Wk
