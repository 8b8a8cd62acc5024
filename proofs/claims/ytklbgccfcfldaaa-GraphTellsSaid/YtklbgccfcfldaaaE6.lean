/- follow: what is in the queue lets its oops be visited. -/
import Derived.Test.YtklbgccfcfldaaaE5
import Derived.Test.YtklbgccfcfldaaaB6
import Derived.RangeFuncWrites
set_option linter.unusedVariables false
namespace Go.Proofs.Ytklbgccfcfldaaa.Wk
open Go.ChangeShapes Go.WideShapes Go.ChangeAt Go.RowKit Go.Shelf M
attribute [local go_sem] Oper.semAt_some

theorem oopsF_any (w : World) (p : Nat) (o : Int) :
    Calls Try.prog 62 #[.pointer (some ⟨p, 0, none⟩), .int .u64 o] w fun e w' => e = .returned (.func (.func 78) #[] #[.pointer (some ⟨w.heap.size, 0, none⟩), .pointer (some ⟨w.heap.size + 1, 0, none⟩)]) ∧
      w' = (w.alloc (.cells #[.pointer (some ⟨p, 0, none⟩)] 25)).alloc (.cells #[.int .u64 o] 33) := by
  go_enter Try.func62, Try.ntmps62
  go_wp2
  go_ret
  exact ⟨rfl, rfl⟩
theorem isOb_lt {s : Hp} (hw : Wf s) {o : Int} (h : isOb s o = true) : 0 ≤ o ∧ o ≤ 18446744073709551615 := by
  obtain ⟨e, hs⟩ := isOb_at hw h
  have := (hw.st _ hs).2.1
  have := hw.n
  omega
/-- A census while it is followed; b0: the box of its own address. -/
structure Fo (B b0 m lb : Nat) (q0 : Option Nat) (w : World) (p c : Nat) (q : List Int) (W : World) (x : CG) : Prop where
  cs : Cs B W p c q x
  hm : x.m = m
  hlb : x.lb = lb
  below : Below B w W
  box : W.heap[b0]? = some (.cells #[.pointer (some ⟨c, 0, none⟩)] 90 (0, 0))
  nq : blk x.qv ≠ some b0
  nc : b0 ≠ c ∧ b0 ≠ m ∧ b0 ≠ lb
  dk : ∀ k o, w.heap[k]? = some o → k ≠ c → k ≠ m → q0 ≠ some k → W.heap[k]? = some o
  dq : blk x.qv = q0 ∨ ∀ k, blk x.qv = some k → w.heap.size ≤ k
theorem Fo.kept {B b0 m lb p c : Nat} {q0 : Option Nat} {w W W' : World} {q : List Int} {x : CG} (h : Fo B b0 m lb q0 w p c q W x) (hb : Below W.heap.size W W') : Fo B b0 m lb q0 w p c q W' x :=
  ⟨h.cs.kept hb (Nat.le_refl _), h.hm, h.hlb, h.below.trans (hb.mono (by have := h.cs.ge; have := blk_lt h.cs.cell; omega)), (hb.block _ (blk_lt h.box)).trans h.box, h.nq, h.nc, fun k o a1 a2 a3 a4 => (hb.block k (blk_lt (h.dk k o a1 a2 a3 a4))).trans (h.dk k o a1 a2 a3 a4), h.dq⟩
theorem Fo.cells {B b0 m lb p c : Nat} {q0 : Option Nat} {w W : World} {q : List Int} {x : CG} (h : Fo B b0 m lb q0 w p c q W x) : W.cell? ⟨b0, 0, none⟩ = some (.pointer (some ⟨c, 0, none⟩)) ∧ W.cell? ⟨c, 0, none⟩ = some (.pointer (some ⟨p, 0, none⟩)) ∧ c < W.heap.size ∧ b0 < W.heap.size :=
  ⟨cell_blk h.box 0, cell_blk h.cs.cell 0, blk_lt h.cs.cell, blk_lt h.box⟩
theorem fol_end (s : Hp) (lv : List Int) (f i : Nat) (q : List Int) (h : q[i]? = none) : fol s lv f i q = q := by
  cases f with
  | zero => rfl
  | succ f => unfold fol; rw [h]
theorem fol_step (s : Hp) (f i : Nat) (q : List Int) (o : Int) (h : q[i]? = some o) : fol s [] (f + 1) i q = fol s [] f (i + 1) (visL s q (oopsL s (atO o))) := by
  show (match q[i]? with | none => q | some o => fol s [] f (i + 1) (visL s q (oopsF s [] o))) = _
  rw [h]
  simp only [oopsF, isLf]
  simp
end Go.Proofs.Ytklbgccfcfldaaa.Wk
