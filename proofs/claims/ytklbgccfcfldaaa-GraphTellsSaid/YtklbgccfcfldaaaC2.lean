/- setHead: a header is laid; setStart: an object begins. -/
import Derived.Test.YtklbgccfcfldaaaC1
set_option linter.unusedVariables false
namespace Go.Proofs.Ytklbgccfcfldaaa.Wk
open Go.ChangeShapes Go.WideShapes Go.ChangeAt Go.RowKit M

/-- In the midst: the heap but for its words; old things as they were. -/
def Md (own : Own) (w : World) (p : Nat) (s : Hp) (g : Gh) (X : World) : Prop := ∃ m, Rep own X p { s with mem := m } g ∧ Fr p own w own X noE
theorem Md.of {own : Own} {w X : World} {p : Nat} {s : Hp} {g : Gh} (h : Rep own w p s g) (b : Below w.heap.size w X) : Md own w p s g X := ⟨s.mem, h.below b (Nat.le_refl _), Fr.of_below b (Nat.le_refl _) _⟩
theorem Md.below {own : Own} {w X Y : World} {p : Nat} {s : Hp} {g : Gh} (h : Md own w p s g X) (b : Below X.heap.size X Y) : Md own w p s g Y := by
  obtain ⟨m, h1, h2⟩ := h
  exact ⟨m, h1.below b (Nat.le_refl _), h2.trans (Fr.of_below b (Nat.le_refl _) _)⟩
theorem Md.setW {own : Own} {w X : World} {p : Nat} {s : Hp} {g : Gh} (h : Md own w p s g X) (i : Nat) (v : Int) (hi : i < s.n) (hv : 0 ≤ v ∧ v ≤ 18446744073709551615) : Md own w p s g (X.setCell ⟨g.wb, i, none⟩ (.int .u64 v)) := by
  obtain ⟨m, h1, h2⟩ := h
  obtain ⟨h3, h4⟩ := h1.setW i v hi hv
  exact ⟨_, h3, h2.trans h4⟩
theorem Md.c0 {own : Own} {w X : World} {p : Nat} {s : Hp} {g : Gh} (h : Md own w p s g X) : X.cell? ⟨p, 0, none⟩ = some (.slice (some ⟨g.wb, 0, none⟩) s.n s.n) := by
  obtain ⟨m, h1, h2⟩ := h; exact h1.c0
theorem Md.wd {own : Own} {w X : World} {p : Nat} {s : Hp} {g : Gh} (h : Md own w p s g X) (i : Nat) (hi : i < s.n) : (X.cell? ⟨g.wb, i, none⟩).isSome = true := by
  obtain ⟨m, h1, h2⟩ := h; rw [h1.word i hi]; rfl
theorem Md.fz {own : Own} {w X : World} {p : Nat} {s : Hp} {g : Gh} (h : Md own w p s g X) (i : Nat) : X.frozen? ⟨g.wb, i, none⟩ = false := by
  obtain ⟨m, h1, h2⟩ := h; exact frozen_blk h1.wcell i
theorem Md.box {own : Own} {w0 w X : World} {p : Nat} {s : Hp} {g : Gh} {cs : Array Value} {e : TypeId} (h : Md own w p s g X) (hr : Owns own w0) (hw : w = w0.alloc (.cells cs e)) : X.heap[w0.heap.size]? = some (.cells cs e (0, 0)) := by
  obtain ⟨m, h1, h2⟩ := h
  rw [h2.kept w0.heap.size (by rw [hw]; simp) (fun l e => by rw [owns_none hr (Nat.le_refl _)] at e; cases e) (fun q => q), hw]
  exact heap_alloc_new w0 _

theorem packA_unB {c f sp h a l : Int} {m n : Bool} (hh : hdB c f sp h a l = true) : unB (packA c f sp h a m n) l = true ∧ 0 ≤ packA c f sp h a m n ∧ packA c f sp h a m n ≤ 70368744177663 ∧ 0 ≤ l ∧ l ≤ 65536 := by
  have hv := (hdB_iff _ _ _ _ _ _).1 hh
  have hb := packA_bd c f sp h a m n (by omega) (by omega) (by omega) (by omega) (by omega) (by omega) (by omega) (by omega) (by omega) (by omega)
  obtain ⟨u1, u2, u3, u4, u5, u6, u7⟩ := u_pack c f sp h a m n (by omega) (by omega) (by omega) (by omega) (by omega) (by omega) (by omega) (by omega) (by omega) (by omega)
  refine ⟨?_, hb.1, hb.2, by omega, by omega⟩
  rw [unB_iff, u1, u2, u3, u4, u5]
  exact ⟨hb.2, by omega, hh⟩
def hdS (s : Hp) (a : Nat) (hd l : Int) : Hp := { s with mem := upd (upd s.mem a hd) (a + 1) l }
theorem upd_comm {α : Type} (f : Nat → α) (i j : Nat) (v u : α) (h : i ≠ j) : upd (upd f i v) j u = upd (upd f j u) i v := by
  funext k; unfold upd; by_cases e : k = j <;> by_cases e2 : k = i <;> simp [e, e2] <;> omega
def Gone (own : Own) (w : World) (p : Nat) (s : Hp) (g : Gh) (e : Ending) (w' : World) : Prop := e = .returned (.tuple #[]) ∧ Rep own w' p s g ∧ Fr p own w own w' noE

set_option maxHeartbeats 4000000 in
set_option maxRecDepth 100000 in
theorem setHead_any (own : Own) (w : World) (p : Nat) (s : Hp) (g : Gh) (h : Rep own w p s g) (at_ : Nat) (ha : at_ + 2 ≤ s.n) (c f sp hs a l : Int) (m n : Bool) (hh : hdB c f sp hs a l = true) :
    Calls Try.prog 39 #[.pointer (some ⟨p, 0, none⟩), .int .i64 at_, hdV c f sp hs a l m n] w (Gone own w p (hdS s at_ (packA c f sp hs a m n) l) g) := by
  obtain ⟨hu, v0, v1, l0, l1⟩ := packA_unB (m := m) (n := n) hh
  have hn := h.w0.n
  obtain ⟨W, hW⟩ : ∃ W, W = w.alloc (.cells #[.int .i64 c, .int .u8 f, .int .i64 sp, .int .i64 hs, .int .i64 a, .int .i64 l, .bool m, .bool n] 78) := ⟨_, rfl⟩
  have hB : Below w.heap.size w W := by rw [hW]; exact (Below.refl _ _).alloc (Nat.le_refl _) _
  have hR := h.below hB (Nat.le_refl _)
  have HP := Lib.hid (fun X => pack_y c f sp hs a l m n X hh)
  have HW := Lib.hid hW
  have HM := Lib.hid (Md.of hR (Below.refl _ _))
  have HO := Lib.hid h.owns
  have HFW : Hid (Fr p own w own W noE) := Lib.hid (Fr.of_below hB (Nat.le_refl _) _)
  have HR := Lib.hid hR
  clear h hR hB hu
  obtain ⟨v, hv⟩ : ∃ v, v = packA c f sp hs a m n := ⟨_, rfl⟩
  rw [← hv] at HP v0 v1 ⊢
  clear hv
  have i0 : (at_ : Int) < s.n := by omega
  have i1 : (at_ : Int) + 1 < s.n := by omega
  have i2 : IntKind.i64.wrap ((at_ : Int) + 1) = (at_ : Int) + 1 := by rw [IntKind.wrap_i64]; omega
  have i3 : (0 : Int) ≤ (at_ : Int) + 1 := by omega
  have i4 : ((at_ : Int) + 1).toNat = at_ + 1 := by omega
  go_enter Try.func39, Try.ntmps39
  go_wp2
  rw [← hW]
  clear hW
  have KEEP := Lib.hid (fun X (q : Md own W p s g X) => (show X.cell? ⟨p, 0, none⟩ = some (.slice (some ⟨g.wb, 0, none⟩) s.n s.n) ∧ X.cell? ⟨w.heap.size, 0, none⟩ = some (.int .i64 c) ∧ X.cell? ⟨w.heap.size, 1, none⟩ = some (.int .u8 f) ∧ X.cell? ⟨w.heap.size, 2, none⟩ = some (.int .i64 sp) ∧ X.cell? ⟨w.heap.size, 3, none⟩ = some (.int .i64 hs) ∧ X.cell? ⟨w.heap.size, 4, none⟩ = some (.int .i64 a) ∧ X.cell? ⟨w.heap.size, 5, none⟩ = some (.int .i64 l) ∧ X.cell? ⟨w.heap.size, 6, none⟩ = some (.bool m) ∧ X.cell? ⟨w.heap.size, 7, none⟩ = some (.bool n) from by
    obtain ⟨z0, z1, z2, z3, z4, z5, z6, z7, zf⟩ := box8 (q.box HO.out HW.out)
    exact ⟨q.c0, z0, z1, z2, z3, z4, z5, z6, z7⟩))
  go_region_held3 (fun X => X.cell? ⟨p, 0, none⟩ = some (.slice (some ⟨g.wb, 0, none⟩) s.n s.n) ∧ X.cell? ⟨w.heap.size, 0, none⟩ = some (.int .i64 c) ∧ X.cell? ⟨w.heap.size, 1, none⟩ = some (.int .u8 f) ∧ X.cell? ⟨w.heap.size, 2, none⟩ = some (.int .i64 sp) ∧ X.cell? ⟨w.heap.size, 3, none⟩ = some (.int .i64 hs) ∧ X.cell? ⟨w.heap.size, 4, none⟩ = some (.int .i64 a) ∧ X.cell? ⟨w.heap.size, 5, none⟩ = some (.int .i64 l) ∧ X.cell? ⟨w.heap.size, 6, none⟩ = some (.bool m) ∧ X.cell? ⟨w.heap.size, 7, none⟩ = some (.bool n))
    (first
      | with_reducible exact KEEP.out _ (HM.out.below ((Below.refl _ _).drew))
      | with_reducible exact KEEP.out _ HM1.out
      | with_reducible exact KEEP.out _ (HM1.out.setW at_ v (by omega) (by omega))
      | with_reducible exact KEEP.out _ (HM1.out.setW (at_ + 1) l (by omega) (by omega))
      | with_reducible exact KEEP.out _ ((HM1.out.setW at_ v (by omega) (by omega)).setW (at_ + 1) l (by omega) (by omega))
      | with_reducible exact KEEP.out _ ((HM1.out.setW (at_ + 1) l (by omega) (by omega)).setW at_ v (by omega) (by omega)))
    (first | (go_at_call 66; refine (HP.out _).mono ?_; rintro e w1 ⟨rfl, b1⟩; have B1 : Hid (Below W.heap.size W w1) := Lib.hid (((Below.refl _ _).drew).trans b1); have HM1 := Lib.hid (HM.out.below B1.out); have HR1 := Lib.hid (HR.out.below B1.out (Nat.le_refl _)); have ca := HR1.out.word at_ (by omega); have cb := HR1.out.word (at_ + 1) (by omega); have fa := HM1.out.fz at_; have fb := HM1.out.fz (at_ + 1); clear b1))
  go_end0
  obtain ⟨r1, f1⟩ := HR1.out.setW at_ v (by omega) (by omega)
  obtain ⟨r2, f2⟩ := r1.setW (at_ + 1) l (by show at_ + 1 < s.n; omega) (by omega)
  exact ⟨rfl, r2, (HFW.out.trans (Fr.of_below B1.out (Nat.le_refl _) _)).trans (f1.trans f2)⟩

theorem bit_set (st : Nat → Bool) (a : Nat) : bits .or .u64 (bitsOf st (a / 64) : Int) (IntKind.u64.wrap ((2 : Int) ^ (a % 64))) = (bitsOf (upd st a true) (a / 64) : Int) := by
  have hl := bitsOf_lt st (a / 64)
  have hk : a % 64 < 64 := Nat.mod_lt _ (by omega)
  have hp : 2 ^ (a % 64) < 2 ^ 64 := Nat.pow_lt_pow_right (by omega) hk
  have hc : ((2 : Int) ^ (a % 64)) = ((2 ^ (a % 64) : Nat) : Int) := by rw [Int.natCast_pow]; rfl
  rw [bitsOf_set, hc]
  generalize 2 ^ (a % 64) = x at *
  have hw : IntKind.u64.wrap (x : Int) = x := by rw [IntKind.wrap_u64]; omega
  rw [hw, u64_or _ _ (by omega) (by omega) (by omega) (by omega)]
  rfl
set_option maxHeartbeats 2000000 in
set_option maxRecDepth 100000 in
theorem setStart_y (own : Own) (w : World) (p : Nat) (s : Hp) (g : Gh) (h : Rep own w p s g) (a : Nat) (ha : 2 ≤ a ∧ a + 2 ≤ s.n) :
    Calls Try.prog 69 #[.pointer (some ⟨p, 0, none⟩), .int .i64 a, .bool true] w (Gone own w p { s with st := upd s.st a true } g) := by
  have hn := h.w0.n
  have c1 := h.c1
  have hb := h.bits (a / 64) (by omega)
  have hf := frozen_blk h.scell (a / 64)
  have HR := Lib.hid (h.setB a ha)
  have hlt := bitsOf_lt s.st (a / 64)
  have i1 : (a : Int) / 64 < ((s.n + 63) / 64 : Nat) := by omega
  have i3 : a / 64 < (s.n + 63) / 64 := by omega
  clear h
  go_enter Try.func69, Try.ntmps69
  go_wp2
  rw [bit_set]
  go_end0
  exact ⟨rfl, HR.out.1, HR.out.2⟩
end Go.Proofs.Ytklbgccfcfldaaa.Wk
