/- Alloc: an object of so many oops, words or bytes, where there is room for it. -/
import Derived.Test.YtklbgccfcfldaaaC6
set_option linter.unusedVariables false
namespace Go.Proofs.Ytklbgccfcfldaaa.Wk
open Go.ChangeShapes Go.WideShapes Go.ChangeAt Go.RowKit M

/-- The spare bytes of so many. -/
def spareOf (n : Nat) : Nat := (8 - n % 8) % 8
def slotsOf (n : Nat) : Nat := (n + 7) / 8
set_option maxHeartbeats 1000000 in
theorem slotsOf_any (n : Nat) (hn : n ≤ 1099511627776) (w : World) :
    Calls Try.prog 41 #[.int .i64 n] w fun e w' => e = .returned (.tuple #[.int .i64 (slotsOf n), .int .i64 (spareOf n)]) ∧ w = w' := by
  have hn' : (n : Int) ≤ 1099511627776 := by omega
  by_cases h0 : 0 < n % 8
  · have i1 : (0 : Int) < (n : Int) % 8 := by omega
    have e1 : (slotsOf n : Int) = (n : Int) / 8 + 1 := by unfold slotsOf; omega
    have e2 : (spareOf n : Int) = 8 - (n : Int) % 8 := by unfold spareOf; omega
    rw [e1, e2]
    clear e1 e2
    go_enter Try.func41, Try.ntmps41
    go_wp2
    go_ret2
    exact ⟨rfl, rfl⟩
  · have i1 : ¬ ((0 : Int) < (n : Int) % 8) := by omega
    have e1 : (slotsOf n : Int) = (n : Int) / 8 := by unfold slotsOf; omega
    have e2 : (spareOf n : Int) = 0 := by unfold spareOf; omega
    rw [e1, e2]
    clear e1 e2
    go_enter Try.func41, Try.ntmps41
    go_wp2
    go_ret2
    exact ⟨rfl, rfl⟩

theorem low2 {w W Y w1 : World} {o1 o2 : Obj} (hW : W = w.alloc o1) (hY : Y = W.alloc o2) (hb : Below Y.heap.size Y w1) : Below w.heap.size w w1 ∧ W.heap.size = w.heap.size + 1 := by
  have h1 : Below w.heap.size w W := by rw [hW]; exact (Below.refl _ _).alloc (Nat.le_refl _) _
  have h2 : Below w.heap.size w Y := by rw [hY]; exact h1.alloc h1.size _
  exact ⟨h2.trans (hb.mono h2.size), by rw [hW]; simp⟩
theorem keep_box1 {w W Y w1 : World} {cs : Array Value} {e : TypeId} {o2 : Obj} (hW : W = w.alloc (.cells cs e)) (hY : Y = W.alloc o2) (hb : Below Y.heap.size Y w1) : w1.heap[w.heap.size]? = some (.cells cs e (0, 0)) := by
  have hs : w.heap.size < W.heap.size := by rw [hW]; simp
  have h2 : Y.heap[w.heap.size]? = W.heap[w.heap.size]? := by rw [hY]; exact Below.heap_alloc _ _ _ hs
  have hs2 : w.heap.size < Y.heap.size := by rw [hY]; simp; omega
  rw [hb.block _ hs2, h2, hW]; exact heap_alloc_new w _
theorem keep_box2 {w W Y w1 : World} {cs : Array Value} {e : TypeId} {o1 : Obj} (hW : W = w.alloc o1) (hY : Y = W.alloc (.cells cs e)) (hb : Below Y.heap.size Y w1) : w1.heap[w.heap.size + 1]? = some (.cells cs e (0, 0)) := by
  have := keep_box hY hb
  rw [(low2 hW hY hb).2] at this; exact this
set_option maxHeartbeats 2000000 in
set_option maxRecDepth 100000 in
theorem shapeValid_y (c f s h a l : Int) (m n : Bool) (w : World) (hh : hdB c f s h a l = true) :
    Calls Try.prog 42 #[hdV c f s h a l m n] w fun e w' => e = .returned (.tuple #[hdV c f s h a l m n, .int .i64 0]) ∧ Below w.heap.size w w' := by
  obtain ⟨W, hW⟩ : ∃ W, W = w.alloc (.cells #[.int .i64 c, .int .u8 f, .int .i64 s, .int .i64 h, .int .i64 a, .int .i64 l, .bool m, .bool n] 78) := ⟨_, rfl⟩
  obtain ⟨Y, hY⟩ : ∃ Y, Y = W.alloc (.cells #[.int .i64 0, .int .u8 0, .int .i64 0, .int .i64 0, .int .i64 0, .int .i64 0, .bool false, .bool false] 78) := ⟨_, rfl⟩
  have HP := pack_y c f s h a l m n Y hh
  have HE := Lib.hid (And.intro hW hY)
  clear hh
  rw [hW] at hY
  rw [hY] at HP
  clear hW hY
  go_enter Try.func42, Try.ntmps42
  go_wp2_with (go_at_call 66; refine HP.mono ?_; rintro e w1 ⟨rfl, b1⟩; rw [← HE.out.1, ← HE.out.2] at b1; obtain ⟨y0, y1, y2, y3, y4, y5, y6, y7, yf⟩ := box8 (keep_box1 HE.out.1 HE.out.2 b1); obtain ⟨z0, z1, z2, z3, z4, z5, z6, z7, zf⟩ := box8 (keep_box2 HE.out.1 HE.out.2 b1); have B1 := Lib.hid (low2 HE.out.1 HE.out.2 b1).1; clear b1 HP)
  refine bodyPost_ret (v := .tuple #[hdV c f s h a l m n, .int .i64 0]) (by simp [results, Try.results42, go_sem, z0, z1, z2, z3, z4, z5, z6, z7]) rfl ⟨rfl, ?_⟩
  exact store8 B1.out (by omega)
set_option maxHeartbeats 2000000 in
set_option maxRecDepth 100000 in
theorem shapeOf_y (c f : Int) (k : Nat) (w : World) (hf5 : f ≠ 5) (hf6 : f ≠ 6) (hh : hdB c f 0 0 0 k = true) :
    Calls Try.prog 22 #[.int .i64 c, .int .u8 f, .int .i64 k] w fun e w' => e = .returned (.tuple #[hdV c f 0 0 0 k false false, .int .i64 0]) ∧ Below w.heap.size w w' := by
  obtain ⟨W, hW⟩ : ∃ W, W = w.alloc (.cells #[.int .i64 0, .int .u8 0, .int .i64 0, .int .i64 0, .int .i64 0, .int .i64 0, .bool false, .bool false] 78) := ⟨_, rfl⟩
  obtain ⟨Y, hY⟩ : ∃ Y, Y = W.alloc (.cells #[.int .i64 c, .int .u8 f, .int .i64 0, .int .i64 0, .int .i64 0, .int .i64 k, .bool false, .bool false] 78) := ⟨_, rfl⟩
  have HV := shapeValid_y c f 0 0 0 k false false Y hh
  have HE := Lib.hid (And.intro hW hY)
  have t5 : (f == 5) = false := by simp [hf5]
  have t6 : (f == 6) = false := by simp [hf6]
  have i0 : ¬ ((k : Int) < 0) := by omega
  clear hh
  rw [hW] at hY
  rw [hY] at HV
  clear hW hY
  go_enter Try.func22, Try.ntmps22
  go_wp2_with (go_at_call 42; refine HV.mono ?_; rintro e w1 ⟨rfl, b1⟩; rw [← HE.out.1, ← HE.out.2] at b1; obtain ⟨z0, z1, z2, z3, z4, z5, z6, z7, zf⟩ := box8 (keep_box1 HE.out.1 HE.out.2 b1); have B1 := Lib.hid (low2 HE.out.1 HE.out.2 b1).1; clear b1 HV)
  refine bodyPost_ret (v := .tuple #[hdV c f 0 0 0 k false false, .int .i64 0]) (by simp [results, Try.results22, go_sem, z0, z1, z2, z3, z4, z5, z6, z7]) rfl ⟨rfl, ?_⟩
  exact store8 B1.out (by omega)
set_option maxHeartbeats 2000000 in
set_option maxRecDepth 100000 in
theorem shapeOfB_y (c : Int) (n : Nat) (w : World) (hn : n ≤ 524288) (hh : hdB c 5 (spareOf n) 0 0 (slotsOf n) = true) :
    Calls Try.prog 22 #[.int .i64 c, .int .u8 5, .int .i64 n] w fun e w' => e = .returned (.tuple #[hdV c 5 (spareOf n) 0 0 (slotsOf n) false false, .int .i64 0]) ∧ Below w.heap.size w w' := by
  have HS := Lib.hid (fun W => slotsOf_any n (by omega) W)
  have i0 : ¬ ((n : Int) < 0) := by omega
  generalize slotsOf n = k at *
  generalize spareOf n = sp at *
  obtain ⟨W, hW⟩ : ∃ W, W = w.alloc (.cells #[.int .i64 0, .int .u8 0, .int .i64 0, .int .i64 0, .int .i64 0, .int .i64 0, .bool false, .bool false] 78) := ⟨_, rfl⟩
  obtain ⟨Y, hY⟩ : ∃ Y, Y = W.alloc (.cells #[.int .i64 c, .int .u8 5, .int .i64 sp, .int .i64 0, .int .i64 0, .int .i64 k, .bool false, .bool false] 78) := ⟨_, rfl⟩
  have HV := shapeValid_y c 5 sp 0 0 k false false Y hh
  have HE := Lib.hid (And.intro hW hY)
  clear hh
  rw [hW] at hY
  rw [hY] at HV
  clear hW hY
  go_enter Try.func22, Try.ntmps22
  go_wp2_with (first
    | (go_at_call 41; refine (HS.out _).mono ?_; rintro e w' ⟨rfl, rfl⟩)
    | (go_at_call 42; refine HV.mono ?_; rintro e w1 ⟨rfl, b1⟩; rw [← HE.out.1, ← HE.out.2] at b1; obtain ⟨z0, z1, z2, z3, z4, z5, z6, z7, zf⟩ := box8 (keep_box1 HE.out.1 HE.out.2 b1); have B1 := Lib.hid (low2 HE.out.1 HE.out.2 b1).1; clear b1 HV))
  refine bodyPost_ret (v := .tuple #[hdV c 5 sp 0 0 k false false, .int .i64 0]) (by simp [results, Try.results22, go_sem, z0, z1, z2, z3, z4, z5, z6, z7]) rfl ⟨rfl, ?_⟩
  exact store8 B1.out (by omega)

set_option maxHeartbeats 2000000 in
set_option maxRecDepth 100000 in
theorem alloc_fit (own : Own) (w : World) (p : Nat) (s : Hp) (g : Gh) (h : Rep own w p s g) (i : Nat) (hi : i = 1 ∨ i = 3 ∨ i = 4) (c f : Int) (k : Nat) (hf5 : f ≠ 5) (hf6 : f ≠ 6) (hh : hdB c f 0 0 0 k = true)
    (hfit : Fit s i (packA c f 0 0 0 false false) k 0) (hny : i = 4 → isYoung (createS s i (packA c f 0 0 0 false false) k 0) (s.spec.getD 0 0) = false) :
    Calls Try.prog 7 #[.pointer (some ⟨p, 0, none⟩), .int .u8 i, .int .i64 c, .int .u8 f, .int .i64 k] w fun e w' =>
      e = .returned (.tuple #[.int .u64 (8 * ((s.ar i).t : Int)), .int .i64 0]) ∧ Rep own w' p (createS s i (packA c f 0 0 0 false false) k 0) g ∧ Fr p own w own w' noE := by
  have HO := shapeOf_y c f k w hf5 hf6 hh
  have HC := Lib.hid (fun X (b : Below w.heap.size w X) => create_fit own X p s g (h.below b (Nat.le_refl _)) i hi c f 0 k 0 (by omega) hh hfit hny)
  clear h hfit hny hh
  generalize createS s i (packA c f 0 0 0 false false) k 0 = s' at *
  generalize (s.ar i).t = t at *
  go_enter Try.func7, Try.ntmps7
  go_wp2_with (first
    | (go_at_call 22; refine HO.mono ?_; rintro e w1 ⟨rfl, b1⟩; have B1 := Lib.hid (b1.alloc b1.size (.cells #[.int .i64 c, .int .u8 f, .int .i64 0, .int .i64 0, .int .i64 0, .int .i64 k, .bool false, .bool false] 78)); clear b1)
    | (go_at_call 23; refine (HC.out _ B1.out).mono ?_; rintro e w2 ⟨rfl, r1, f1⟩))
  go_ret2
  exact ⟨rfl, r1, (Fr.of_below B1.out (Nat.le_refl _) noE).trans f1⟩

set_option maxHeartbeats 2000000 in
set_option maxRecDepth 100000 in
theorem allocB_fit (own : Own) (w : World) (p : Nat) (s : Hp) (g : Gh) (h : Rep own w p s g) (i : Nat) (hi : i = 1 ∨ i = 3 ∨ i = 4) (c : Int) (n : Nat) (hn : n ≤ 524288) (hh : hdB c 5 (spareOf n) 0 0 (slotsOf n) = true)
    (hfit : Fit s i (packA c 5 (spareOf n) 0 0 false false) (slotsOf n) 0) (hny : i = 4 → isYoung (createS s i (packA c 5 (spareOf n) 0 0 false false) (slotsOf n) 0) (s.spec.getD 0 0) = false) :
    Calls Try.prog 7 #[.pointer (some ⟨p, 0, none⟩), .int .u8 i, .int .i64 c, .int .u8 5, .int .i64 n] w fun e w' =>
      e = .returned (.tuple #[.int .u64 (8 * ((s.ar i).t : Int)), .int .i64 0]) ∧ Rep own w' p (createS s i (packA c 5 (spareOf n) 0 0 false false) (slotsOf n) 0) g ∧ Fr p own w own w' noE := by
  have HO := shapeOfB_y c n w hn hh
  have HC := Lib.hid (fun X (b : Below w.heap.size w X) => create_fit own X p s g (h.below b (Nat.le_refl _)) i hi c 5 (spareOf n) (slotsOf n) 0 (by omega) hh hfit hny)
  clear h hfit hny hh
  generalize createS s i (packA c 5 (spareOf n) 0 0 false false) (slotsOf n) 0 = s' at *
  generalize (s.ar i).t = t at *
  generalize slotsOf n = k at *
  generalize spareOf n = sp at *
  go_enter Try.func7, Try.ntmps7
  go_wp2_with (first
    | (go_at_call 22; refine HO.mono ?_; rintro e w1 ⟨rfl, b1⟩; have B1 := Lib.hid (b1.alloc b1.size (.cells #[.int .i64 c, .int .u8 5, .int .i64 sp, .int .i64 0, .int .i64 0, .int .i64 k, .bool false, .bool false] 78)); clear b1)
    | (go_at_call 23; refine (HC.out _ B1.out).mono ?_; rintro e w2 ⟨rfl, r1, f1⟩))
  go_ret2
  exact ⟨rfl, r1, (Fr.of_below B1.out (Nat.le_refl _) noE).trans f1⟩
end Go.Proofs.Ytklbgccfcfldaaa.Wk
