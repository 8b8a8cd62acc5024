/- The inner loop of follow, as a relation; the marks of the loops' deferred calls. -/
import Derived.Test.YtklbgccfcfldaaaE6
set_option linter.unusedVariables false
namespace Go.Proofs.Ytklbgccfcfldaaa.Wk
open Go.ChangeShapes Go.WideShapes Go.ChangeAt Go.RowKit Go.Shelf M

/-- A block for deferred calls into which nothing was put. -/
def mkD (D : Nat) : Deferred := { target := .collected D, args := #[] }
def Mks (W : World) (Ds : List Nat) : Prop := ∀ D ∈ Ds, W.heap[D]? = some (.deferred (some []))
/-- While an object's oops are visited. -/
structure Ib (Bl B b0 m lb : Nat) (q0 : Option Nat) (w : World) (p c : Nat) (Ds : List Nat) (b1 b2 : Nat) (q : List Int) (W : World) : Prop where
  ex : ∃ y, Fo B b0 m lb q0 w p c q W y ∧ blk y.qv ≠ some b1 ∧ blk y.qv ≠ some b2
  mks : Mks W Ds
  size : Bl ≤ W.heap.size
theorem row_cells {w : World} {e : TypeId} {sz n : Nat} {v : Value} {xs : List Value} (h : Row w e sz v n xs) {k : Nat} (hk : blk v = some k) : ∃ cs fz, w.heap[k]? = some (.cells cs e fz) := by
  rcases h.2 with ⟨_, a, rfl⟩ | ⟨gq, cap, cur, rfl, hc, ⟨fz, hg, hz⟩, _⟩
  · cases a <;> simp [blk] at hk
  · obtain ⟨c', rfl⟩ : ∃ c', cap = c' + 1 := ⟨cap - 1, by omega⟩
    simp [blk] at hk; subst hk
    exact ⟨cur, fz, hg⟩
theorem Ib.own {Bl B b0 m lb p c b1 b2 : Nat} {q0 : Option Nat} {w : World} {Ds : List Nat} {β : Type} (f : β → List Int) (h : c < Bl ∧ m < Bl ∧ lb < Bl ∧ b0 < Bl ∧ B ≤ Bl ∧ ∀ D ∈ Ds, D < Bl) (hwB : w.heap.size ≤ Bl) : OwnFrom Bl (fun pre W => Ib Bl B b0 m lb q0 w p c Ds b1 b2 (f pre) W) := by
  intro s W W' row hs hg hr
  obtain ⟨⟨y, hF, n1, n2⟩, hm, hz⟩ := hs
  obtain ⟨i1, i2, i3, i4, i5, i6⟩ := h
  have hrow : ∀ k, k < Bl → row ≠ some k := fun k hk e => by have := (hr k e).1; omega
  have hcl : ∀ k, k < W.heap.size → row ≠ some k → W'.heap[k]? = W.heap[k]? := fun k hk hne => hg.block k hk (fun e => hne e.symm)
  have hq : ∀ k, blk y.qv = some k → W'.heap[k]? = W.heap[k]? := fun k e => by
    obtain ⟨cs, fz, hc⟩ := row_cells hF.cs.row e
    refine hcl k (blk_lt hc) (fun e2 => ?_)
    obtain ⟨-, o, ho, hnc⟩ := hr k e2
    rw [hc] at ho; cases ho; cases hnc
  have hW : ∀ k, k < Bl → W'.heap[k]? = W.heap[k]? := fun k hk => hcl k (by omega) (hrow k hk)
  have h1 := hF.hm
  have h2 := hF.hlb
  refine ⟨⟨y, ⟨⟨hF.cs.ge, (hW c i1).trans hF.cs.cell, hF.cs.mge, hF.cs.num.kept (by rw [h1]; exact hW m i2), hF.cs.row.kept hq, hF.cs.rge, hF.cs.lge, by rw [h2, hW lb i3, ← h2]; exact hF.cs.leaf, hF.cs.ne⟩, h1, h2, ?_, (hW b0 i4).trans hF.box, hF.nq, hF.nc, fun k o a1 a2 a3 a4 => (hW k (Nat.lt_of_lt_of_le (blk_lt a1) hwB)).trans (hF.dk k o a1 a2 a3 a4), hF.dq⟩, n1, n2⟩, fun D hD => (hW D (i6 D hD)).trans (hm D hD), Nat.le_trans hz hg.size⟩
  exact ⟨hg.os.trans hF.below.os, hg.tape.trans hF.below.tape, hg.output.trans hF.below.output, Nat.le_trans hF.below.size hg.size, fun k hk => (hW k (by omega)).trans (hF.below.block k hk)⟩
/-- One visit. -/
theorem Ib.visit {Bl B b0 m lb p c b1 b2 : Nat} {q0 : Option Nat} {w W W' : World} {Ds : List Nat} {q : List Int} {s : Hp} {v : Int} {y y' : CG} (h : c < Bl ∧ m < Bl ∧ lb < Bl ∧ b0 < Bl ∧ B ≤ Bl ∧ (∀ D ∈ Ds, D < Bl) ∧ b1 < Bl ∧ b2 < Bl ∧ b1 ≠ c ∧ b2 ≠ c ∧ b1 ≠ m ∧ b2 ≠ m)
    (hF : Fo B b0 m lb q0 w p c q W y) (n1 : blk y.qv ≠ some b1) (n2 : blk y.qv ≠ some b2) (hm : Mks W Ds) (hz : Bl ≤ W.heap.size)
    (hc : Cs B W' p c (vis s q v) y') (hb : Below B W W') (hst : Step W W' c y y') :
    Ib Bl B b0 m lb q0 w p c Ds b1 b2 (vis s q v) W' ∧ KeepsFrom Bl W W' ∧ Kps B b1 b2 W W' := by
  obtain ⟨i1, i2, i3, i4, i5, i6, i7, i8, i9, i10, i11, i12⟩ := h
  have h1 := hF.hm
  have h2 := hF.hlb
  have hnc := hF.nc
  have hk : ∀ k, k < W.heap.size → k ≠ c → k ≠ m → blk y.qv ≠ some k → W'.heap[k]? = W.heap[k]? := fun k a1 a2 a3 a4 => hst.kept k a1 a2 (by rw [h1]; exact a3) a4
  have hqn : ∀ b, b < Bl → blk y.qv ≠ some b → blk y'.qv ≠ some b := fun b hb2 hne e => by
    rcases hst.q with e2 | e2
    · exact hne (by rw [← e2]; exact e)
    · have := e2 b e; omega
  have hnoc : ∀ k o, W.heap[k]? = some o → o.isCells = false → blk y.qv ≠ some k := fun k o ho hco e => by
    obtain ⟨cs, fz, hc2⟩ := row_cells hF.cs.row e
    rw [hc2] at ho; cases ho; cases hco
  have hcne : ∀ k o, W.heap[k]? = some o → o.isCells = false → k ≠ c := fun k o ho hco e => by
    subst e; rw [hF.cs.cell] at ho; cases ho; cases hco
  have hmne : ∀ k, W.heap[k]? = some (.deferred (some [])) → k ≠ m := fun k ho e => by
    obtain ⟨es, clock, hb2, _⟩ := hF.cs.num.map
    rw [h1] at hb2
    subst e; rw [hb2] at ho; cases ho
  refine ⟨⟨⟨y', ⟨hc, hst.m.trans h1, hst.lb.trans h2, hF.below.trans hb, (hk b0 (by omega) hnc.1 hnc.2.1 hF.nq).trans hF.box, hqn b0 i4 hF.nq, hnc, fun k o a1 a2 a3 a4 => by
    have ho := hF.dk k o a1 a2 a3 a4
    refine (hk k (blk_lt ho) a2 a3 (fun e => ?_)).trans ho
    rcases hF.dq with e2 | e2
    · exact a4 (by rw [← e2]; exact e)
    · have := e2 k e; have := blk_lt a1; omega, by
    rcases hst.q with e2 | e2
    · rcases hF.dq with e3 | e3
      · exact .inl (e2.trans e3)
      · exact .inr fun k e => e3 k (by rw [← e2]; exact e)
    · exact .inr fun k e => Nat.le_trans hF.below.size (e2 k e)⟩, hqn b1 i7 n1, hqn b2 i8 n2⟩, fun D hD => ?_, Nat.le_trans hz hb.size⟩, ⟨hb.size, fun k o hB ho hco => ?_⟩, hb, hk b1 (by omega) i9 i11 n1, hk b2 (by omega) i10 i12 n2⟩
  · have hD2 := hm D hD
    exact (hk D (blk_lt hD2) (hcne D _ hD2 rfl) (hmne D hD2) (hnoc D _ hD2 rfl)).trans hD2
  · exact (hk k (blk_lt ho) (hcne k o ho hco) (by omega) (hnoc k o ho hco)).trans ho
/-- The marks at the function's end: each block is shut. -/
theorem leaves_marks {F : Fence} {n : Nat} {P : Program} {fn : Func} {tmps : Array Value} {R : Ending → World → Prop} : ∀ (Ds : List Nat) (W : World), Mks W Ds → Ds.Nodup →
    (∀ W', W.heap.size = W'.heap.size → W'.os = W.os → W'.tape = W.tape → W'.output = W.output → (∀ k, k ∉ Ds → W'.heap[k]? = W.heap[k]?) → LeavesInM F n P fn tmps R [] .returning W') → LeavesInM F n P fn tmps R (Ds.map mkD) .returning W
  | [], W, _, _, h => h W rfl rfl rfl rfl fun _ _ => rfl
  | D :: r, W, hm, hn, h => by
    have hD := hm D (by simp)
    have hnr := (List.nodup_cons.1 hn)
    refine ⟨by simp, .inl ⟨D, _, rfl, run_takeDeferred hD, ?_⟩⟩
    have hoth : ∀ k, k ≠ D → (W.putObj D (.deferred none)).heap[k]? = W.heap[k]? := fun k hk => World.putObj_heap_other hk
    refine leaves_marks r _ (fun D' hD' => ?_) hnr.2 fun W' a1 a2 a3 a4 a5 => ?_
    · have hne : D' ≠ D := fun e => hnr.1 (e ▸ hD')
      rw [hoth D' hne]; exact hm D' (by simp [hD'])
    · refine h W' (by rw [← a1]; simp) (a2.trans rfl) (a3.trans rfl) (a4.trans rfl) fun k hk => ?_
      simp at hk
      rw [a5 k hk.2, hoth k hk.1]
theorem kps_t {B b1 b2 : Nat} {X Y Z : World} (h : Kps B b1 b2 X Y) (k : Kps B b1 b2 Y Z) : Kps B b1 b2 X Z := ⟨h.1.trans k.1, k.2.1.trans h.2.1, k.2.2.trans h.2.2⟩
theorem kps_b {B b1 b2 n : Nat} (hB : B ≤ n) (h1 : b1 < n) (h2 : b2 < n) (W : World) (l : Nat) (o o' : Obj) (hl : n ≤ l) (ho : W.heap[l]? = some o) (_ : o.isCells = false) (_ : o.isWalk = false) : Kps B b1 b2 W (W.putObj l o') :=
  ⟨⟨rfl, rfl, rfl, by simp, fun k hk => World.putObj_heap_other (by omega)⟩, World.putObj_heap_other (by omega), World.putObj_heap_other (by omega)⟩
end Go.Proofs.Ytklbgccfcfldaaa.Wk
