/- An object that an oop names: its header and its slots themselves (object, find), and how many words it has. -/
import Derived.Test.YtklbgccfcfldaaaB1
set_option linter.unusedVariables false
namespace Go.Proofs.Ytklbgccfcfldaaa.Wk
open Go.ChangeShapes Go.WideShapes Go.ChangeAt Go.RowKit M

abbrev hdCells (x k : Int) : Array Value := #[.int .i64 (uC x), .int .u8 (uF x), .int .i64 (uS x), .int .i64 (uH x), .int .i64 (uA x), .int .i64 k, .bool (uM x), .bool (uN x)]

/-- Where an object's slots begin. -/
abbrev slA (g : Gh) (a k : Nat) : Option Addr := if k = 0 then some ⟨g.wb, 0, none⟩ else some ⟨g.wb, a + 2, none⟩
/-- An object as the program hands it on: where it is, its header, its slots. -/
abbrev objV (g : Gh) (x : Int) (a k : Nat) : Value := .agg #[.int .i64 a, .int .i64 (uC x), .int .u8 (uF x), .int .i64 (uS x), .int .i64 (uH x), .int .i64 (uA x), .int .i64 k, .bool (uM x), .bool (uN x), .slice (slA g a k) k k]

set_option maxHeartbeats 1000000 in
set_option maxRecDepth 100000 in
theorem sizeOf_any (c f s h a l : Int) (m n : Bool) (w : World) (h0 : 0 ≤ l) (h1 : l ≤ 65536) :
    Calls Try.prog 67 #[hdV c f s h a l m n] w fun e w' => e = .returned (.int .i64 (2 + l)) ∧ Below w.heap.size w w' := by
  go_enter Try.func67, Try.ntmps67
  go_wp2
  go_ret
  exact ⟨rfl, by go_grown⟩
set_option maxHeartbeats 1000000 in
theorem isIndex_any (i n : Int) (w : World) :
    Calls Try.prog 26 #[.int .i64 i, .int .i64 n] w fun e w' => e = .returned (.bool (decide (0 ≤ i ∧ i < n))) ∧ w = w' := by
  go_enter Try.func26, Try.ntmps26
  go_wp2
  all_goals
    go_ret
    exact ⟨ret_bool (by rw [Bool.eq_iff_iff]; simp <;> omega), rfl⟩

theorem box8 {w : World} {b : Nat} {e : TypeId} {a0 a1 a2 a3 a4 a5 a6 a7 : Value} (h : w.heap[b]? = some (.cells #[a0, a1, a2, a3, a4, a5, a6, a7] e (0, 0))) : w.cell? ⟨b, 0, none⟩ = some a0 ∧ w.cell? ⟨b, 1, none⟩ = some a1 ∧ w.cell? ⟨b, 2, none⟩ = some a2 ∧ w.cell? ⟨b, 3, none⟩ = some a3 ∧ w.cell? ⟨b, 4, none⟩ = some a4 ∧ w.cell? ⟨b, 5, none⟩ = some a5 ∧ w.cell? ⟨b, 6, none⟩ = some a6 ∧ w.cell? ⟨b, 7, none⟩ = some a7 ∧ ∀ o, w.frozen? ⟨b, o, none⟩ = false :=
  ⟨cell_blk h 0, cell_blk h 1, cell_blk h 2, cell_blk h 3, cell_blk h 4, cell_blk h 5, cell_blk h 6, cell_blk h 7, frozen_blk h⟩
theorem box10 {w : World} {b : Nat} {e : TypeId} {a0 a1 a2 a3 a4 a5 a6 a7 a8 a9 : Value} (h : w.heap[b]? = some (.cells #[a0, a1, a2, a3, a4, a5, a6, a7, a8, a9] e (0, 0))) : w.cell? ⟨b, 0, none⟩ = some a0 ∧ w.cell? ⟨b, 1, none⟩ = some a1 ∧ w.cell? ⟨b, 2, none⟩ = some a2 ∧ w.cell? ⟨b, 3, none⟩ = some a3 ∧ w.cell? ⟨b, 4, none⟩ = some a4 ∧ w.cell? ⟨b, 5, none⟩ = some a5 ∧ w.cell? ⟨b, 6, none⟩ = some a6 ∧ w.cell? ⟨b, 7, none⟩ = some a7 ∧ w.cell? ⟨b, 8, none⟩ = some a8 ∧ w.cell? ⟨b, 9, none⟩ = some a9 ∧ ∀ o, w.frozen? ⟨b, o, none⟩ = false :=
  ⟨cell_blk h 0, cell_blk h 1, cell_blk h 2, cell_blk h 3, cell_blk h 4, cell_blk h 5, cell_blk h 6, cell_blk h 7, cell_blk h 8, cell_blk h 9, frozen_blk h⟩
/-- A new block is as it was laid as long as nothing but later ones changes. -/
theorem keep_box {w W X : World} {cs : Array Value} {e : TypeId} (hW : W = w.alloc (.cells cs e)) (hb : Below W.heap.size W X) : X.heap[w.heap.size]? = some (.cells cs e (0, 0)) := by
  rw [hb.block w.heap.size (by rw [hW]; simp), hW]; exact heap_alloc_new w _
theorem set10 {w : World} {b : Nat} {e : TypeId} {b0 b1 b2 b3 b4 b5 b6 b7 b8 b9 : Value} (h : w.heap[b]? = some (.cells #[b0, b1, b2, b3, b4, b5, b6, b7, b8, b9] e (0, 0))) (a0 a1 a2 a3 a4 a5 a6 a7 a8 a9 : Value) :
    ((((((((((w.setCell ⟨b, 0, none⟩ a0).setCell ⟨b, 1, none⟩ a1).setCell ⟨b, 2, none⟩ a2).setCell ⟨b, 3, none⟩ a3).setCell ⟨b, 4, none⟩ a4).setCell ⟨b, 5, none⟩ a5).setCell ⟨b, 6, none⟩ a6).setCell ⟨b, 7, none⟩ a7).setCell ⟨b, 8, none⟩ a8).setCell ⟨b, 9, none⟩ a9).heap[b]? = some (.cells #[a0, a1, a2, a3, a4, a5, a6, a7, a8, a9] e (0, 0)) := by
  rw [blk_set (blk_set (blk_set (blk_set (blk_set (blk_set (blk_set (blk_set (blk_set (blk_set h 0 a0) 1 a1) 2 a2) 3 a3) 4 a4) 5 a5) 6 a6) 7 a7) 8 a8) 9 a9]; simp
theorem store10 {B b : Nat} {w X : World} (h : Below B w X) {a0 a1 a2 a3 a4 a5 a6 a7 a8 a9 : Value} (hb : B ≤ b) :
    Below B w ((((((((((X.setCell ⟨b, 0, none⟩ a0).setCell ⟨b, 1, none⟩ a1).setCell ⟨b, 2, none⟩ a2).setCell ⟨b, 3, none⟩ a3).setCell ⟨b, 4, none⟩ a4).setCell ⟨b, 5, none⟩ a5).setCell ⟨b, 6, none⟩ a6).setCell ⟨b, 7, none⟩ a7).setCell ⟨b, 8, none⟩ a8).setCell ⟨b, 9, none⟩ a9) :=
  (((((((((h.setCell hb _).setCell hb _).setCell hb _).setCell hb _).setCell hb _).setCell hb _).setCell hb _).setCell hb _).setCell hb _).setCell hb _
theorem below_new {w W X : World} {o : Obj} (hW : W = w.alloc o) (hb : Below W.heap.size W X) : Below w.heap.size w X := by
  have h1 : Below w.heap.size w W := by rw [hW]; exact (Below.refl _ _).alloc (Nat.le_refl _) _
  exact h1.trans (hb.mono h1.size)
/-- From W on: a new header's box. -/
structure Mid (W : World) (v : Array Value) (hb : Nat) (X : World) : Prop where
  ge : W.heap.size ≤ hb
  box : X.heap[hb]? = some (.cells v 78 (0, 0))
  bel : Below W.heap.size W X
theorem mid1 {W w1 : World} (h : Below W.heap.size W w1) (v : Array Value) : Mid W v w1.heap.size (w1.alloc (.cells v 78)) :=
  ⟨h.size, heap_alloc_new w1 _, h.alloc h.size _⟩
theorem set8 {w : World} {b : Nat} {e : TypeId} {b0 b1 b2 b3 b4 b5 b6 b7 : Value} (h : w.heap[b]? = some (.cells #[b0, b1, b2, b3, b4, b5, b6, b7] e (0, 0))) (a0 a1 a2 a3 a4 a5 a6 a7 : Value) :
    ((((((((w.setCell ⟨b, 0, none⟩ a0).setCell ⟨b, 1, none⟩ a1).setCell ⟨b, 2, none⟩ a2).setCell ⟨b, 3, none⟩ a3).setCell ⟨b, 4, none⟩ a4).setCell ⟨b, 5, none⟩ a5).setCell ⟨b, 6, none⟩ a6).setCell ⟨b, 7, none⟩ a7).heap[b]? = some (.cells #[a0, a1, a2, a3, a4, a5, a6, a7] e (0, 0)) :=
  by rw [blk_set (blk_set (blk_set (blk_set (blk_set (blk_set (blk_set (blk_set h 0 a0) 1 a1) 2 a2) 3 a3) 4 a4) 5 a5) 6 a6) 7 a7]; simp
theorem store8 {B b : Nat} {w X : World} (h : Below B w X) {a0 a1 a2 a3 a4 a5 a6 a7 : Value} (hb : B ≤ b) :
    Below B w ((((((((X.setCell ⟨b, 0, none⟩ a0).setCell ⟨b, 1, none⟩ a1).setCell ⟨b, 2, none⟩ a2).setCell ⟨b, 3, none⟩ a3).setCell ⟨b, 4, none⟩ a4).setCell ⟨b, 5, none⟩ a5).setCell ⟨b, 6, none⟩ a6).setCell ⟨b, 7, none⟩ a7) :=
  (((((((h.setCell hb _).setCell hb _).setCell hb _).setCell hb _).setCell hb _).setCell hb _).setCell hb _).setCell hb _

theorem mid2 {W w1 : World} {b0 b1 b2 b3 b4 b5 b6 b7 : Value} (h : Below W.heap.size W w1) (hbx : w1.heap[W.heap.size]? = some (.cells #[b0, b1, b2, b3, b4, b5, b6, b7] 78 (0, 0))) (a0 a1 a2 a3 a4 a5 a6 a7 : Value) :
    Mid W #[a0, a1, a2, a3, a4, a5, a6, a7] W.heap.size ((((((((w1.setCell ⟨W.heap.size, 0, none⟩ a0).setCell ⟨W.heap.size, 1, none⟩ a1).setCell ⟨W.heap.size, 2, none⟩ a2).setCell ⟨W.heap.size, 3, none⟩ a3).setCell ⟨W.heap.size, 4, none⟩ a4).setCell ⟨W.heap.size, 5, none⟩ a5).setCell ⟨W.heap.size, 6, none⟩ a6).setCell ⟨W.heap.size, 7, none⟩ a7) :=
  ⟨Nat.le_refl _, set8 hbx _ _ _ _ _ _ _ _, store8 h (Nat.le_refl _)⟩
theorem Mid.step {W X Y : World} {v : Array Value} {hb : Nat} (h : Mid W v hb X) (b : Below X.heap.size X Y) : Mid W v hb Y :=
  ⟨h.ge, (b.block hb (blk_lt h.box)).trans h.box, h.bel.trans (b.mono h.bel.size)⟩
theorem Mid.ex {W X : World} {v : Array Value} {hb : Nat} (h : Mid W v hb X) : ∃ Y b, Y = X ∧ b = hb ∧ Mid W v b Y := ⟨X, hb, rfl, rfl, h⟩

/-- From W on nothing old has changed; what the heap's words at a say. -/
structure Ld (W : World) (p : Nat) (g : Gh) (s : Hp) (a : Nat) (X : World) : Prop where
  c0 : X.cell? ⟨p, 0, none⟩ = some (.slice (some ⟨g.wb, 0, none⟩) s.n s.n)
  ca : a + 2 ≤ s.n → X.cell? ⟨g.wb, a, none⟩ = some (.int .u64 (s.mem a))
  cb : a + 2 ≤ s.n → X.cell? ⟨g.wb, a + 1, none⟩ = some (.int .u64 (s.mem (a + 1)))
  bel : Below W.heap.size W X
theorem Ld.of {own : Own} {w W X : World} {p : Nat} {s : Hp} {g : Gh} {a : Nat} (h : Rep own w p s g) (hb : Below w.heap.size w W) (hx : Below W.heap.size W X) : Ld W p g s a X := by
  have h1 := (h.below hb (Nat.le_refl _)).below hx (Nat.le_refl _)
  exact ⟨h1.c0, fun q => h1.word a (by omega), fun q => h1.word (a + 1) (by omega), hx⟩
theorem Ld.conj {W : World} {p : Nat} {g : Gh} {s : Hp} {a k : Nat} {X : World} (h : Ld W p g s a X) (ha : a + 2 ≤ s.n) (hk : s.mem (a + 1) = k) :
    X.cell? ⟨p, 0, none⟩ = some (.slice (some ⟨g.wb, 0, none⟩) s.n s.n) ∧ X.cell? ⟨g.wb, a, none⟩ = some (.int .u64 (s.mem a)) ∧ X.cell? ⟨g.wb, a + 1, none⟩ = some (.int .u64 k) ∧ Ld W p g s a X :=
  ⟨h.c0, h.ca ha, by rw [h.cb ha, hk], h⟩

set_option maxHeartbeats 4000000 in
set_option maxRecDepth 100000 in
theorem obj_any (own : Own) (w : World) (p : Nat) (s : Hp) (g : Gh) (h : Rep own w p s g) (a : Nat) (ha : a + 2 + sl s a ≤ s.n) (hu : unB (s.mem a) (s.mem (a + 1)) = true) :
    Calls Try.prog 50 #[.pointer (some ⟨p, 0, none⟩), .int .i64 a] w fun e w' => e = .returned (objV g (s.mem a) a (sl s a)) ∧ Below w.heap.size w w' := by
  have hn := h.w0.n
  have ha2 : a + 2 ≤ s.n := by omega
  have i0 : (a : Int) < s.n := by omega
  have i1 : (a : Int) + 1 < s.n := by omega
  have i2 : IntKind.i64.wrap ((a : Int) + 1) = (a : Int) + 1 := by rw [IntKind.wrap_i64]; omega
  have i3 : (0 : Int) ≤ (a : Int) + 1 := by omega
  have i4 : ((a : Int) + 1).toNat = a + 1 := by omega
  have hu' := (unB_iff _ _).1 hu
  have hm0 := (h.w0.mem a).1
  have hm1 := (h.w0.mem (a + 1)).1
  obtain ⟨k, hk⟩ : ∃ k : Nat, s.mem (a + 1) = k := ⟨(s.mem (a + 1)).toNat, by omega⟩
  have hsl : sl s a = k := by unfold sl; omega
  rw [hsl] at ha
  have c0 := h.c0
  have ca := h.word a (by omega)
  have cb := h.word (a + 1) (by omega)
  have fz := h.owns
  have hp := blk_lt h.hcell
  have hwb := blk_lt h.wcell
  rw [hk] at hu' cb
  have HU := fun W => unpack_y (s.mem a) k W hm0 (by omega) hu'.1 hu'.2.1 hu'.2.2
  obtain ⟨W, hW⟩ : ∃ W, W = w.alloc (.cells #[.int .i64 0, .int .i64 0, .int .u8 0, .int .i64 0, .int .i64 0, .int .i64 0, .int .i64 0, .bool false, .bool false, .slice none 0 0] 83) := ⟨_, rfl⟩
  have HK : ∀ X, Below W.heap.size W X → Ld W p g s a X := fun X hb => Ld.of h (by rw [hW]; exact (Below.refl _ _).alloc (Nat.le_refl _) _) hb
  have HK' := Lib.hid HK
  have HU' := Lib.hid HU
  clear h hp hwb fz HK HU
  go_enter Try.func50, Try.ntmps50
  go_wp2
  rw [← hW]
  have HW := Lib.hid hW
  clear hW
  go_region_held3 (fun X => X.cell? ⟨p, 0, none⟩ = some (.slice (some ⟨g.wb, 0, none⟩) s.n s.n) ∧ X.cell? ⟨g.wb, a, none⟩ = some (.int .u64 (s.mem a)) ∧ X.cell? ⟨g.wb, a + 1, none⟩ = some (.int .u64 k) ∧ Ld W p g s a X)
    (first
      | with_reducible exact (HK'.out _ ((Below.refl _ _).drew)).conj ha2 hk
      | with_reducible exact (HK'.out _ B1.out).conj ha2 hk
      | with_reducible exact (HK'.out _ (B1.out.alloc B1.out.size _)).conj ha2 hk
      | with_reducible exact (HK'.out _ (((Below.refl _ _).alloc (Nat.le_refl _) _).drew)).conj ha2 hk
      | with_reducible exact (HK'.out _ (((Below.refl _ _).drew).alloc (Nat.le_refl _) _)).conj ha2 hk
      | with_reducible exact (HK'.out _ (store8 B1.out (Nat.le_refl _))).conj ha2 hk
      | with_reducible exact (HK'.out _ (store8 (B1.out.alloc B1.out.size _) B1.out.size)).conj ha2 hk)
    (first | (go_at_call 72; refine (HU'.out _).mono ?_; rintro e w1 ⟨rfl, b1⟩; first
      | (have B1 : Hid (Below W.heap.size W w1) := Lib.hid (((Below.refl _ _).drew).trans b1); clear b1)
      | (have B1 : Hid (Below W.heap.size W w1) := Lib.hid ((((Below.refl _ _).alloc (Nat.le_refl _) _).drew).trans (b1.mono (by simp))); have HBX := Lib.hid ((b1.block W.heap.size (by simp)).trans (heap_alloc_new W _)); obtain ⟨y0, y1, y2, y3, y4, y5, y6, y7, yf⟩ := box8 HBX.out; clear b1)))
  all_goals
    first
      | (obtain ⟨X, hb, hX, hhb, MD⟩ := (mid1 B1.out (hdCells (s.mem a) k)).ex; rw [← hX, ← hhb]; clear hX hhb)
      | (obtain ⟨X, hb, hX, hhb, MD⟩ := (mid2 B1.out HBX.out (.int .i64 (uC (s.mem a))) (.int .u8 (uF (s.mem a))) (.int .i64 (uS (s.mem a))) (.int .i64 (uH (s.mem a))) (.int .i64 (uA (s.mem a))) (.int .i64 k) (.bool (uM (s.mem a))) (.bool (uN (s.mem a)))).ex; rw [← hX, ← hhb]; clear hX hhb HBX y0 y1 y2 y3 y4 y5 y6 y7 yf)
    clear B1
    have MD' := Lib.hid MD
    obtain ⟨x0, x1, x2, x3, x4, x5, x6, x7, xf⟩ := box8 MD.box
    clear MD
    go_wp2_with (go_at_call 67; refine (sizeOf_any _ _ _ _ _ _ _ _ _ (by omega) (by omega)).mono ?_; rintro e w2 ⟨rfl, b2⟩)
    have MW := Lib.hid (MD'.out.step b2)
    have hc0 := (HK'.out _ MW.out.bel).c0
    obtain ⟨x0, x1, x2, x3, x4, x5, x6, x7, xf⟩ := box8 MW.out.box
    obtain ⟨z0, z1, z2, z3, z4, z5, z6, z7, z8, z9, zf⟩ := box10 (keep_box HW.out MW.out.bel)
    clear b2
    have j0 : (0 : Int) ≤ (a : Int) + 2 := by omega
    have j1 : (a : Int) + 2 ≤ (a : Int) + (2 + (k : Int)) := by omega
    have j2 : (a : Int) + (2 + (k : Int)) ≤ s.n := by omega
    have j3 : (0 : Int) ≤ (a : Int) + (2 + (k : Int)) := by omega
    have j4 : ((a : Int) + 2).toNat = a + 2 := by omega
    have j6 : a + (2 + k) - (a + 2) = k := by omega
    have j5 : ((a : Int) + (2 + (k : Int))).toNat = a + (2 + k) := by omega
    obtain ⟨sa, hsa⟩ : ∃ sa, sa = (if k = 0 then some (⟨g.wb, 0, none⟩ : Addr) else some ⟨g.wb, a + 2, none⟩) := ⟨_, rfl⟩
    have HSA := Lib.hid hsa
    clear hsa
    go_still_tail 11, (by kernel_rfl)
    have hsa := HSA.out
    rw [← hsa]
    clear hsa
    go_wp2
    refine bodyPost_ret (v := .agg #[.int .i64 a, .int .i64 (uC (s.mem a)), .int .u8 (uF (s.mem a)), .int .i64 (uS (s.mem a)), .int .i64 (uH (s.mem a)), .int .i64 (uA (s.mem a)), .int .i64 k, .bool (uM (s.mem a)), .bool (uN (s.mem a)), .slice sa k k]) (by simp [results, Try.results50, go_sem, z0, z1, z2, z3, z4, z5, z6, z7, z8, z9]) rfl ⟨by rw [hsl, HSA.out], ?_⟩
    exact (store10 (below_new HW.out MW.out.bel) (Nat.le_refl _)).drew
end Go.Proofs.Ytklbgccfcfldaaa.Wk
