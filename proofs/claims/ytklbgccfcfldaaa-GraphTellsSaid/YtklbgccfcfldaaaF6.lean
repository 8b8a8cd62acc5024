/- While an object's names are appended: the row in its box, the census beside it. -/
import Derived.Test.YtklbgccfcfldaaaF5
set_option linter.unusedVariables false
namespace Go.Proofs.Ytklbgccfcfldaaa.Wk
open Go.ChangeShapes Go.WideShapes Go.ChangeAt Go.RowKit Go.Shelf M

theorem Cs.gr {B : Nat} {w w' : World} {p c : Nat} {q : List Int} {x : CG} {v v' : Value} (h : Cs B w p c q x) (hg : Gr w w' v v') (hne : ∀ k, blk v = some k → k ≠ c ∧ k ≠ x.m ∧ k ≠ x.lb ∧ blk x.qv ≠ some k) : Cs B w' p c q x := by
  have hk : ∀ k, k < w.heap.size → (k = c ∨ k = x.m ∨ k = x.lb ∨ blk x.qv = some k) → w'.heap[k]? = w.heap[k]? := fun k hk hor => hg.g.block k hk (fun e => by
    have := hne k e.symm
    rcases hor with r | r | r | r
    · exact this.1 r
    · exact this.2.1 r
    · exact this.2.2.1 r
    · exact this.2.2.2 r)
  exact ⟨h.ge, (hk c (blk_lt h.cell) (.inl rfl)).trans h.cell, h.mge, h.num.kept (hk _ h.num.lt (.inr (.inl rfl))), h.row.kept (fun k e => hk k (h.row.lt k e) (.inr (.inr (.inr e)))), h.rge, h.lge, (hk _ (blk_lt h.leaf) (.inr (.inr (.inl rfl)))).trans h.leaf, h.ne⟩
theorem Cs.set {B : Nat} {w : World} {p c b : Nat} {q : List Int} {x : CG} (h : Cs B w p c q x) (v : Value) (hb : b ≠ c ∧ b ≠ x.m ∧ b ≠ x.lb ∧ blk x.qv ≠ some b) : Cs B (w.setCell ⟨b, 0, none⟩ v) p c q x :=
  ⟨h.ge, (blk_set_other _ _ _ _ _ (Ne.symm hb.1)).trans h.cell, h.mge, h.num.kept (blk_set_other _ _ _ _ _ (Ne.symm hb.2.1)), h.row.kept (fun k e => blk_set_other _ _ _ _ _ (fun r => hb.2.2.2 (by rw [← r]; exact e))), h.rge, h.lge, (blk_set_other _ _ _ _ _ (Ne.symm hb.2.2.1)).trans h.leaf, h.ne⟩

/-- b4 holds the census' address, b5 the row v, which is l; w, v0: where it began. -/
structure Nb (B b4 b5 c p : Nat) (q : List Int) (x : CG) (w : World) (v0 v : Value) (l : List Int) (W : World) : Prop where
  cs : Cs B W p c q x
  box4 : W.heap[b4]? = some (.cells #[.pointer (some ⟨c, 0, none⟩)] 90 (0, 0))
  box5 : W.heap[b5]? = some (.cells #[v] 42 (0, 0))
  wr : Wr W v l
  gr : Gr w W v0 v
  ne : ∀ k, blk v = some k → k ≠ c ∧ k ≠ x.m ∧ k ≠ x.lb ∧ blk x.qv ≠ some k ∧ k ≠ b4 ∧ k ≠ b5
  sep : b5 ≠ c ∧ b5 ≠ x.m ∧ b5 ≠ x.lb ∧ blk x.qv ≠ some b5
  sep2 : b4 ≠ b5 ∧ w.heap.size ≤ b5
section
variable {B b4 b5 c p : Nat} {q : List Int} {x : CG} {w W W2 : World} {v0 v v2 : Value} {l l2 : List Int}
theorem Nb.below (h : Nb B b4 b5 c p q x w v0 v l W) (hb : Below W.heap.size W W2) : Nb B b4 b5 c p q x w v0 v l W2 :=
  ⟨h.cs.kept hb (Nat.le_refl _), (hb.block _ (blk_lt h.box4)).trans h.box4, (hb.block _ (blk_lt h.box5)).trans h.box5, h.wr.below hb, h.gr.trans (Gr.of_below v hb), h.ne, h.sep, h.sep2⟩
theorem Nb.put (h : Nb B b4 b5 c p q x w v0 v l W) (hr : Wr W2 v2 l2) (hg : Gr W W2 v v2) : Nb B b4 b5 c p q x w v0 v2 l2 (W2.setCell ⟨b5, 0, none⟩ v2) := by
  have h4 := blk_lt h.box4
  have h5 := blk_lt h.box5
  have hk : ∀ k, k < W.heap.size → (∀ j, blk v = some j → k ≠ j) → W2.heap[k]? = W.heap[k]? := fun k hk hne => hg.g.block k hk (fun e => hne k e.symm rfl)
  have hnew : ∀ k, blk v2 = some k → k ≠ c ∧ k ≠ x.m ∧ k ≠ x.lb ∧ blk x.qv ≠ some k ∧ k ≠ b4 ∧ k ≠ b5 := fun k e => by
    rcases hg.b with e2 | e2
    · exact h.ne k (by rw [← e2]; exact e)
    · have h1 := e2 k e
      have h2 := blk_lt h.cs.cell
      have h3 := h.cs.num.lt
      have h6 := blk_lt h.cs.leaf
      refine ⟨by omega, by omega, by omega, fun e3 => by have := h.cs.row.lt k e3; omega, by omega, by omega⟩
  have hcs2 := h.cs.gr hg (fun k e => ⟨(h.ne k e).1, (h.ne k e).2.1, (h.ne k e).2.2.1, (h.ne k e).2.2.2.1⟩)
  refine ⟨hcs2.set v2 h.sep, ?_, ?_, ?_, ?_, hnew, h.sep, h.sep2⟩
  · rw [blk_set_other _ _ _ _ _ h.sep2.1]
    exact (hk b4 h4 (fun j e r => (h.ne j e).2.2.2.2.1 r.symm)).trans h.box4
  · have := blk_set ((hk b5 h5 (fun j e r => (h.ne j e).2.2.2.2.2 r.symm)).trans h.box5) 0 v2
    rw [this]; simp
  · exact hr.kept fun k e => blk_set_other _ _ _ _ _ (hnew k e).2.2.2.2.2
  · have ht := h.gr.trans hg
    refine ⟨⟨ht.g.os, ht.g.tape, ht.g.output, by rw [size_setc]; exact ht.g.size, fun k hk hne => ?_⟩, ht.b⟩
    rw [blk_set_other _ _ _ _ _ (by have := h.sep2.2; omega)]
    exact ht.g.block k hk hne
/-- What a put keeps. -/
theorem Nb.keeps (h : Nb B b4 b5 c p q x w v0 v l W) (hg : Gr W W2 v v2) (Bl : Nat) : KeepsFrom Bl W (W2.setCell ⟨b5, 0, none⟩ v2) := by
  refine ⟨by rw [size_setc]; exact hg.g.size, fun k o _ ho hco => ?_⟩
  have h1 : k ≠ b5 := fun e => by rw [e, h.box5] at ho; cases ho; cases hco
  rw [blk_set_other _ _ _ _ _ h1]
  refine (hg.g.block k (blk_lt ho) (fun e => ?_)).trans ho
  obtain ⟨cs, fz, hc⟩ := row_cells h.wr e.symm
  rw [hc] at ho; cases ho; cases hco
/-- In the loop: closure boxes b1, b2 beside. -/
def Ni (B b4 b5 c p : Nat) (q : List Int) (x : CG) (w : World) (v0 : Value) (b1 b2 b7 : Nat) (H : Array Value) (l : List Int) (W : World) : Prop :=
  ∃ v, Nb B b4 b5 c p q x w v0 v l W ∧ blk v ≠ some b1 ∧ blk v ≠ some b2 ∧ blk v ≠ some b7 ∧ W.heap[b7]? = some (.cells H 78 (0, 0))
theorem Ni.own {Bl b1 b2 b7 : Nat} {H : Array Value} {β : Type} (f : β → List Int) (h : c < Bl ∧ x.m < Bl ∧ x.lb < Bl ∧ b4 < Bl ∧ b5 < Bl ∧ w.heap.size ≤ Bl) : OwnFrom Bl (fun pre W => Ni B b4 b5 c p q x w v0 b1 b2 b7 H (f pre) W) := by
  intro s W W' row hs hg hr
  obtain ⟨v, hN, n1, n2, n7, h7⟩ := hs
  obtain ⟨i1, i2, i3, i4, i5, i6⟩ := h
  have hW : ∀ k, k < Bl → k < W.heap.size → W'.heap[k]? = W.heap[k]? := fun k hk hlt => hg.block k hlt (fun e => by have := (hr k e.symm).1; omega)
  have hC : ∀ (k : Nat) (cs : Array Value) (e : TypeId) (fz : Nat × Nat), W.heap[k]? = some (Obj.cells cs e fz) → W'.heap[k]? = W.heap[k]? := fun k cs e fz hc => hg.block k (blk_lt hc) (fun e2 => by
    obtain ⟨-, o, ho, hnc⟩ := hr k e2.symm
    rw [hc] at ho; cases ho; cases hnc)
  have hq : ∀ k, blk x.qv = some k → W'.heap[k]? = W.heap[k]? := fun k e => by
    obtain ⟨cs, fz, hc⟩ := row_cells hN.cs.row e
    exact hC k _ _ _ hc
  have hv : ∀ k, blk v = some k → W'.heap[k]? = W.heap[k]? := fun k e => by
    obtain ⟨cs, fz, hc⟩ := row_cells hN.wr e
    exact hC k _ _ _ hc
  refine ⟨v, ⟨⟨hN.cs.ge, (hC c _ _ _ hN.cs.cell).trans hN.cs.cell, hN.cs.mge, hN.cs.num.kept (hW _ i2 hN.cs.num.lt), hN.cs.row.kept hq, hN.cs.rge, hN.cs.lge, (hW _ i3 (blk_lt hN.cs.leaf)).trans hN.cs.leaf, hN.cs.ne⟩,
    (hC _ _ _ _ hN.box4).trans hN.box4, (hC _ _ _ _ hN.box5).trans hN.box5, hN.wr.kept hv, ?_, hN.ne, hN.sep, hN.sep2⟩, n1, n2, n7, (hC _ _ _ _ h7).trans h7⟩
  exact ⟨⟨hg.os.trans hN.gr.g.os, hg.tape.trans hN.gr.g.tape, hg.output.trans hN.gr.g.output, Nat.le_trans hN.gr.g.size hg.size, fun k hk hne => (hW k (by omega) (Nat.lt_of_lt_of_le hk hN.gr.g.size)).trans (hN.gr.g.block k hk hne)⟩, hN.gr.b⟩
/-- One name more. -/
theorem Ni.put {b1 b2 b7 : Nat} {H : Array Value} {Bl : Nat} (h : Nb B b4 b5 c p q x w v0 v l W) (n1 : blk v ≠ some b1) (n2 : blk v ≠ some b2) (n7 : blk v ≠ some b7) (h7 : W.heap[b7]? = some (.cells H 78 (0, 0)))
    (hb : b1 < W.heap.size ∧ b2 < W.heap.size ∧ b1 ≠ b5 ∧ b2 ≠ b5 ∧ b7 ≠ b5 ∧ B ≤ b5) (hvB : ∀ k, blk v = some k → B ≤ k) (hr : Wr W2 v2 l2) (hg : Gr W W2 v v2) :
    Ni B b4 b5 c p q x w v0 b1 b2 b7 H l2 (W2.setCell ⟨b5, 0, none⟩ v2) ∧ KeepsFrom Bl W (W2.setCell ⟨b5, 0, none⟩ v2) ∧ Kps B b1 b2 W (W2.setCell ⟨b5, 0, none⟩ v2) := by
  obtain ⟨i1, i2, i3, i4, i5, i6⟩ := hb
  have h7l := blk_lt h7
  have h5l := blk_lt h.box5
  have hnew : ∀ b, b < W.heap.size → blk v ≠ some b → blk v2 ≠ some b := fun b hb hne e => by
    rcases hg.b with e2 | e2
    · exact hne (by rw [← e2]; exact e)
    · have := e2 b e; omega
  have hkeep : ∀ b, b < W.heap.size → b ≠ b5 → blk v ≠ some b → (W2.setCell ⟨b5, 0, none⟩ v2).heap[b]? = W.heap[b]? := fun b hb h5 hne => by
    rw [blk_set_other _ _ _ _ _ h5]
    exact hg.g.block b hb (fun e => hne e.symm)
  refine ⟨⟨v2, h.put hr hg, hnew b1 i1 n1, hnew b2 i2 n2, hnew b7 h7l n7, (hkeep b7 h7l i5 n7).trans h7⟩, h.keeps hg Bl, ?_, hkeep b1 i1 i3 n1, hkeep b2 i2 i4 n2⟩
  refine ⟨hg.g.os, hg.g.tape, hg.g.output, by rw [size_setc]; exact hg.g.size, fun k hk => hkeep k (by omega) (by omega) (fun e => by have := hvB k e; omega)⟩
end
end Go.Proofs.Ytklbgccfcfldaaa.Wk
