/- The census: what was visited so far, in a box of its own. -/
import Derived.Test.YtklbgccfcfldaaaE1
import Derived.Test.YtklbgccfcfldaaaC9
set_option linter.unusedVariables false
namespace Go.Proofs.Ytklbgccfcfldaaa.Wk
open Go.ChangeShapes Go.WideShapes Go.ChangeAt Go.RowKit M

structure CG where
  m : Nat
  k : Nat
  D : DataW Unit
  qv : Value
  lb : Nat
def cenV (p : Nat) (x : CG) : Array Value := #[.pointer (some ⟨p, 0, none⟩), .map (some x.m), x.qv, .map (some x.lb)]
/-- A census of the heap at p in block c; nothing of it lies below B. -/
structure Cs (B : Nat) (w : World) (p c : Nat) (l : List Int) (x : CG) : Prop where
  ge : B ≤ c
  cell : w.heap[c]? = some (.cells (cenV p x) 97 (0, 0))
  mge : B ≤ x.m
  num : Nu w x.m x.k x.D l
  row : Row w 33 1 x.qv l.length (ocells l)
  rge : ∀ k, blk x.qv = some k → B ≤ k ∧ k ≠ c ∧ k ≠ x.m ∧ k ≠ x.lb
  lge : B ≤ x.lb
  leaf : w.heap[x.lb]? = some (.map #[] 0)
  ne : x.lb ≠ x.m
theorem Cs.ncm {B : Nat} {w : World} {p c : Nat} {l : List Int} {x : CG} (h : Cs B w p c l x) : c ≠ x.m ∧ c ≠ x.lb := by
  obtain ⟨es, clock, hb, _⟩ := h.num.map
  refine ⟨fun e => ?_, fun e => ?_⟩
  · have := h.cell; rw [e, hb] at this; cases this
  · have := h.cell; rw [e, h.leaf] at this; cases this
theorem Cs.kept {B B2 : Nat} {w w' : World} {p c : Nat} {l : List Int} {x : CG} (h : Cs B w p c l x) (hb : Below B2 w w') (hB : w.heap.size ≤ B2) : Cs B w' p c l x :=
  { ge := h.ge
    cell := (hb.block c (Nat.lt_of_lt_of_le (blk_lt h.cell) hB)).trans h.cell
    mge := h.mge
    num := h.num.kept (hb.block x.m (Nat.lt_of_lt_of_le h.num.lt hB))
    row := h.row.kept fun k e => hb.block k (Nat.lt_of_lt_of_le (h.row.lt k e) hB)
    rge := h.rge
    lge := h.lge
    leaf := (hb.block x.lb (Nat.lt_of_lt_of_le (blk_lt h.leaf) hB)).trans h.leaf
    ne := h.ne }
theorem Rep.low {own : Own} {w w' : World} {p : Nat} {s : Hp} {g : Gh} {B : Nat} (h : Rep own w p s g) (hB : ∀ k, own k ≠ none → k < B) (hb : Below B w w') : Rep own w' p s g :=
  h.kept (fun k hk => Nat.lt_of_lt_of_le (h.owns k hk) hb.size) (More.refl _) fun k l e _ => hb.block k (hB k (by rw [e]; simp))
theorem ocells_snoc (l : List Int) (o : Int) : ocells (l ++ [o]) = ocells l ++ [.int .u64 o] := by simp [ocells]

/-- What a visit leaves as it was, and where the row then lies. -/
structure Step (w w' : World) (c : Nat) (x x' : CG) : Prop where
  m : x'.m = x.m
  lb : x'.lb = x.lb
  q : blk x'.qv = blk x.qv ∨ ∀ k, blk x'.qv = some k → w.heap.size ≤ k
  kept : ∀ k, k < w.heap.size → k ≠ c → k ≠ x.m → blk x.qv ≠ some k → w'.heap[k]? = w.heap[k]?
/-- Nothing new. -/
theorem Cs.same {B : Nat} {w w1 : World} {p c : Nat} {l : List Int} {x : CG} (h : Cs B w p c l x) {k2 : Nat} {D2 : DataW Unit} (hn : Nu w1 x.m k2 D2 l) (hg : w.grownBy w1 (some x.m)) :
    Cs B w1 p c l { x with k := k2, D := D2 } ∧ Below B w w1 ∧ Step w w1 c x { x with k := k2, D := D2 } := by
  have hne := h.ncm
  refine ⟨⟨h.ge, (hg.block c (blk_lt h.cell) (by simp; exact hne.1)).trans h.cell, h.mge, hn, ?_, h.rge, h.lge, (hg.block _ (blk_lt h.leaf) (by simp; exact h.ne)).trans h.leaf, h.ne⟩, ⟨hg.os, hg.tape, hg.output, hg.size, fun k hk => ?_⟩, ⟨rfl, rfl, .inl rfl, fun k hk _ hm _ => hg.block k hk (by simp; exact hm)⟩⟩
  · exact h.row.kept fun k e => hg.block k (h.row.lt k e) (by simp; exact (h.rge k e).2.2.1)
  · have := h.mge
    have := h.num.lt
    exact hg.block k (by omega) (by simp; omega)
/-- One more. -/
theorem Cs.more {B : Nat} {w w1 w2 : World} {p c : Nat} {l : List Int} {x : CG} {o : Int} (h : Cs B w p c l x) {k2 : Nat} {D2 : DataW Unit} (hn : Nu w1 x.m k2 D2 (l ++ [o])) (hg : w.grownBy w1 (some x.m))
    {v' : Value} (hr : Row w2 33 1 v' (l.length + 1) (ocells l ++ [.int .u64 o])) (hg2 : w1.grownBy w2 (blk x.qv)) (hb : blk v' = blk x.qv ∨ ∀ k, blk v' = some k → w1.heap.size ≤ k) :
    Cs B (w2.setCell ⟨c, 2, none⟩ v') p c (l ++ [o]) { x with k := k2, D := D2, qv := v' } ∧ Below B w (w2.setCell ⟨c, 2, none⟩ v') ∧ Step w (w2.setCell ⟨c, 2, none⟩ v') c x { x with k := k2, D := D2, qv := v' } := by
  have hne := h.ncm
  have hc1 : c < w.heap.size := blk_lt h.cell
  have hml := h.num.lt
  have hll := blk_lt h.leaf
  have hs1 := hg.size
  have hqc : ∀ k, blk x.qv = some k → k ≠ c ∧ k ≠ x.m ∧ k ≠ x.lb := fun k e => (h.rge k e).2
  have c2 : w2.heap[c]? = some (.cells (cenV p x) 97 (0, 0)) := (hg2.block c (by omega) (fun e => (hqc c e.symm).1 rfl)).trans ((hg.block c hc1 (by simp; exact hne.1)).trans h.cell)
  have hv' : ∀ k, blk v' = some k → B ≤ k ∧ k ≠ c ∧ k ≠ x.m ∧ k ≠ x.lb := fun k e => by
    rcases hb with hb | hb
    · exact h.rge k (by rw [← hb]; exact e)
    · have := hb k e; have := h.ge; omega
  have hsz : (w2.setCell ⟨c, 2, none⟩ v').heap.size = w2.heap.size := size_set _ _ _
  have hst : Step w (w2.setCell ⟨c, 2, none⟩ v') c x { x with k := k2, D := D2, qv := v' } := by
    refine ⟨rfl, rfl, ?_, fun k hk h1 h2 h3 => ?_⟩
    · rcases hb with hb | hb
      · exact .inl hb
      · exact .inr fun k e => Nat.le_trans hs1 (hb k e)
    · rw [blk_set_other _ _ _ _ _ h1]
      exact (hg2.block k (by omega) (fun e => h3 e.symm)).trans (hg.block k hk (by simp; exact h2))
  refine ⟨⟨h.ge, ?_, h.mge, ?_, ?_, hv', h.lge, ?_, h.ne⟩, ?_, hst⟩
  · have := blk_set c2 2 v'
    rw [this]; simp [cenV]
  · refine hn.kept ?_
    rw [blk_set_other _ _ _ _ _ (Ne.symm hne.1)]
    exact hg2.block x.m (by omega) (fun e => (hqc _ e.symm).2.1 rfl)
  · rw [ocells_snoc]
    simp only [List.length_append, List.length_cons, List.length_nil]
    exact hr.kept fun k e => blk_set_other _ _ _ _ _ (hv' k e).2.1
  · rw [blk_set_other _ _ _ _ _ (Ne.symm hne.2)]
    exact (hg2.block x.lb (by omega) (fun e => (hqc _ e.symm).2.2 rfl)).trans ((hg.block _ hll (by simp; exact h.ne)).trans h.leaf)
  · refine ⟨hg2.os.trans hg.os, hg2.tape.trans hg.tape, hg2.output.trans hg.output, by rw [hsz]; exact Nat.le_trans hg.size hg2.size, fun k hk => ?_⟩
    have := h.mge
    have := h.ge
    rw [blk_set_other _ _ _ _ _ (by omega)]
    exact (hg2.block k (by omega) (fun e => by have := (h.rge k e.symm).1; omega)).trans (hg.block k (by omega) (by simp; omega))

set_option maxHeartbeats 4000000 in
set_option maxRecDepth 100000 in
theorem visit_any (own : Own) (w : World) (p : Nat) (s : Hp) (g : Gh) (h : Rep own w p s g) (B c : Nat) (l : List Int) (x : CG) (hc : Cs B w p c l x) (hl : l.length < 1099511627776) (o : Int) (ho : 0 ≤ o ∧ o ≤ 18446744073709551615) :
    Calls Try.prog 57 #[.pointer (some ⟨c, 0, none⟩), .int .u64 o] w fun e w' => e = .returned (.tuple #[]) ∧ ∃ x', Cs B w' p c (vis s l o) x' ∧ Below B w w' ∧ Step w w' c x x' := by
  have HA := add_any own w p s g h x.m x.k x.D l hc.num hl o ho
  have c0 := cell_blk hc.cell 0
  have c1 := cell_blk hc.cell 1
  rw [vis_new] at *
  have hK : ∀ w1 k2 D2, Nu w1 x.m k2 D2 (l ++ [o]) → w.grownBy w1 (some x.m) → ∃ v' w2, (Builtin.append_ #[31, 31] 31 #[x.qv, .slice (some ⟨w1.heap.size, 0, none⟩) 1 1]).run Try.prog (w1.alloc (.cells #[.int .u64 o] 33)) = .ok v' w2 ∧
      w1.cell? ⟨c, 2, none⟩ = some x.qv ∧ c < w1.heap.size ∧ w2.cell? ⟨c, 2, none⟩ = some x.qv ∧ w2.frozen? ⟨c, 2, none⟩ = false ∧ c < w2.heap.size ∧ (∃ n' c', v' = .slice n' (l.length + 1) c') ∧
      ∃ x', Cs B (w2.setCell ⟨c, 2, none⟩ v') p c (l ++ [o]) x' ∧ Below B w (w2.setCell ⟨c, 2, none⟩ v') ∧ Step w (w2.setCell ⟨c, 2, none⟩ v') c x x' := fun w1 k2 D2 hn hg => by
    have hcb : w1.heap[c]? = some (.cells (cenV p x) 97 (0, 0)) := (hg.block c (blk_lt hc.cell) (by simp; exact hc.ncm.1)).trans hc.cell
    have hrow1 : Row w1 33 1 x.qv l.length (ocells l) := hc.row.kept fun k e => hg.block k (hc.row.lt k e) (by simp; exact (hc.rge k e).2.2.1)
    obtain ⟨v', w2, hr, hrow, hg2, hb⟩ := append_one 31 33 (.int .u64 0) Try.underlying31 infoOop rfl w1 x.qv l.length (ocells l) hrow1 (.int .u64 o) rfl (by omega)
    have hcb2 : w2.heap[c]? = some (.cells (cenV p x) 97 (0, 0)) := (hg2.block c (blk_lt hcb) (fun e => (hc.rge c e.symm).2.1 rfl)).trans hcb
    obtain ⟨a2, c2, e2, -⟩ := hrow.cells
    exact ⟨v', w2, hr, cell_blk hcb 2, blk_lt hcb, cell_blk hcb2 2, frozen_blk hcb2 2, blk_lt hcb2, ⟨a2, c2, e2⟩, _, hc.more hn hg hrow hg2 hb⟩
  have hS := fun w1 k2 D2 hn hg => hc.same (w1 := w1) (k2 := k2) (D2 := D2) hn hg
  obtain ⟨a1, q1, e1, -⟩ := hc.row.cells
  have HK := Lib.hid hK
  have HS := Lib.hid hS
  have hcl := blk_lt hc.cell
  clear hK hS h hc
  generalize hvv : l ++ [o] = l2 at *
  generalize hbn : isNew s l o = b at *
  simp only [cenV, numV] at *
  cases b
  · simp only [Bool.false_eq_true, if_false] at *
    go_enter Try.func57, Try.ntmps57
    go_wp2_with (first
      | (go_at_call 76; refine HA.mono ?_; rintro e w1 ⟨rfl, k2, D2, hn, hg⟩))
    go_end0
    exact ⟨rfl, _, HS.out w1 k2 D2 hn hg⟩
  · simp only [if_true] at *
    go_enter Try.func57, Try.ntmps57
    go_wp2_with (first
      | (go_at_call 76; refine HA.mono ?_; rintro e w1 ⟨rfl, k2, D2, hn, hg⟩; obtain ⟨v', w2, hr, u1, u2, u3, u4, u5, ⟨n', c', rfl⟩, HX⟩ := HK.out w1 k2 D2 hn hg; rw [e1] at hr u1 u3; have HX := Lib.hid HX; clear hn hg)
      | (at_builtin; refine Lib.wpList_append_run _ rfl _ _ _ _ rfl _ _ rfl rfl _ _ hr ?_))
    go_end0
    exact ⟨rfl, HX.out⟩
end Go.Proofs.Ytklbgccfcfldaaa.Wk
