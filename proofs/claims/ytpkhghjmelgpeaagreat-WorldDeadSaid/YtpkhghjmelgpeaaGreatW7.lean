/- What every operation does: perform, with whatever function it is handed. -/
import Derived.Test.YtpkhghjmelgpeaaGreatW6
import Derived.Deep.AppendLies
set_option linter.unusedVariables false
namespace Go.Proofs.YtpkhghjmelgpeaaGreat.Wk
open Go.ChangeShapes Go.WideShapes Go.ChangeAt Go.RowKit M

/-- What the function does that is handed to perform: F with what it captured. -/
def Acts (own : Own) (w : World) (p : Nat) (s : St) (g : Gh) (db : Nat) (d : Dd) (c : Ch) (act : St → Ch → Dd → St × Dd) (e : Ending) (w' : World) : Prop :=
  ∃ own' g', e = .returned (.int .i64 (act s c d).2.err) ∧ Rep own' w' p (act s c d).1 g' ∧ w'.heap[db]? = some (.cells (ddcells { (act s c d).2 with err := 0 }).toArray 82 (0, 0)) ∧ Fr own w own' w' (fun k => k = db)
def Performs (own : Own) (w : World) (p : Nat) (s : St) (d : Dd) (act : St → Ch → Dd → St × Dd) (e : Ending) (w' : World) : Prop :=
  ∃ own' g', e = .returned (.agg (ddcells (perform s d act).2).toArray) ∧ Rep own' w' p (perform s d act).1 g' ∧ Fr own w own' w' noE

theorem ddcells_one (d : Dd) : ∀ u ∈ ddcells d, u.oneCell' = true := by intro u hu; simp [ddcells] at hu; rcases hu with rfl | rfl | rfl | rfl | rfl | rfl <;> rfl

/-- The trace, one deed longer: what the append makes, laid back. -/
theorem push_trace {own : Own} {W w2 : World} {p : Nat} {s : St} {g : Gh} (h : Rep own W p s g) (d : Dd) (v' : Value) (hrow : Row w2 82 6 v' (s.told.length + 1) (s.told.flatMap ddcells ++ ddcells d)) (hg : W.grownBy w2 (blk g.tv)) (hb : blk v' = blk g.tv ∨ ∀ k, blk v' = some k → W.heap.size ≤ k) :
    Rep (own.newV v' .tr) (w2.setCell ⟨p, 3, none⟩ v') p { s with told := s.told ++ [d] } { g with tv := v' } ∧ Fr own W (own.newV v' .tr) (w2.setCell ⟨p, 3, none⟩ v') noE := by
  have hm : More W own (own.newV v' .tr) := fun k l e => by
    unfold Own.newV
    split
    · rename_i hk
      rcases hb with e1 | e1
      · rw [hk] at e1; have := h.town k e1.symm; rw [this] at e; exact e
      · have := e1 k hk; have := h.owns k (by rw [e]; simp); omega
    · exact e
  have hold : ∀ k, k < W.heap.size → own.newV v' .tr k = own k := fun k hk => by
    unfold Own.newV
    split
    · rename_i hk'
      rcases hb with e1 | e1
      · rw [hk'] at e1; exact (h.town k e1.symm).symm
      · have := e1 k hk'; omega
    · rfl
  have hoth : ∀ k, k < W.heap.size → own k ≠ some .tr → k ≠ p → (w2.setCell ⟨p, 3, none⟩ v').heap[k]? = W.heap[k]? := fun k hk h1 h2 => by
    rw [blk_set_other _ _ _ _ _ h2]
    exact hg.block k hk (fun e => h1 (h.town k e.symm))
  have hp2 : w2.heap[p]? = W.heap[p]? := hg.block p (blk_lt h.wcell) (fun e => by have := h.town p e.symm; rw [h.wown] at this; cases this)
  have hpv : ∀ k, blk v' = some k → k ≠ p := fun k hk e => by
    subst e
    rcases hb with e1 | e1
    · rw [hk] at e1; have := h.town k e1.symm; rw [h.wown] at this; cases this
    · have := e1 k hk; have := blk_lt h.wcell; omega
  constructor
  · refine h.top (cv := g.cv) (tv := v') (s' := { s with told := s.told ++ [d] }) ?_ hm (fun k l e hl => hoth k (h.owns k (by rw [e]; simp)) (by rw [e]; intro e2; cases e2; simp at hl) (by intro e2; subst e2; rw [h.wown] at e; cases e; simp at hl)) rfl rfl (Wf.same h.wf rfl rfl rfl rfl) ?_ ?_ ?_ ?_
    · intro k hk
      rw [size_set]
      unfold Own.newV at hk
      split at hk
      · rename_i hk'; exact hrow.lt k hk'
      · exact Nat.lt_of_lt_of_le (h.owns k hk) hg.size
    · exact blk_set (hp2.trans h.wcell) 3 v'
    · exact h.chs.kept hm fun k l e hl => by subst hl; exact hoth k (h.owns k (by rw [e]; simp)) (by rw [e]; simp) (by intro e2; subst e2; rw [h.wown] at e; cases e)
    · have : (s.told ++ [d]).flatMap ddcells = s.told.flatMap ddcells ++ ddcells d := by simp
      simp only [List.length_append, List.length_singleton]
      rw [this]
      exact hrow.kept fun k hk => blk_set_other _ _ _ _ _ (hpv k hk)
    · intro k hk; unfold Own.newV; rw [if_pos hk]
  · exact ⟨hg.os, hg.tape, hg.output, by rw [size_set]; exact hg.size, hold, fun k hk h1 _ => hoth k hk (by rw [h1]; simp) (by intro e; subst e; rw [h.wown] at h1; cases h1)⟩

theorem infoDd : (Tryz.prog.info? 82).map (fun i => (i.zero, i.size, i.bytes)) = some (some (.agg #[.int .u8 0, .int .i64 0, .string ⟨#[]⟩, .string ⟨#[]⟩, .int .i64 0, .int .i64 0]), 6, 64) := by kernel_rfl
def Grows (own : Own) (W : World) (p : Nat) (s : St) (g : Gh) (d : Dd) (v' : Value) (w2 : World) : Prop :=
  Row w2 82 6 v' (s.told.length + 1) (s.told.flatMap ddcells ++ ddcells d) ∧ W.grownBy w2 (blk g.tv) ∧ (blk v' = blk g.tv ∨ ∀ k, blk v' = some k → W.heap.size ≤ k)
theorem append_trace {own : Own} {W : World} {p : Nat} {s : St} {g : Gh} (h : Rep own W p s g) (d : Dd) (ht : s.told.length ≤ 1099511627776) :
    ∃ v' w2, (Builtin.append_ #[58, 58] 58 #[g.tv, .slice (some ⟨W.heap.size, 0, none⟩) 1 1]).run Tryz.prog (W.alloc (.cells (ddcells d).toArray 82)) = .ok v' w2 ∧ Grows own W p s g d v' w2 := by
  obtain ⟨i, hi, hz0, hz1, hz2⟩ := info_parts infoDd
  have hrow : Row (W.alloc (.cells (ddcells d).toArray 82)) 82 6 g.tv s.told.length (s.told.flatMap ddcells) := h.trow.kept fun k hk => Below.heap_alloc W _ k (h.trow.lt k hk)
  have hsrc : Src Tryz.prog 6 58 (.slice (some ⟨W.heap.size, 0, none⟩) 1 1) 1 (ddcells d) (W.alloc (.cells (ddcells d).toArray 82)) := by
    refine Src.ofSlice (P := Tryz.prog) _ Tryz.underlying58 _ 1 1 (ddcells d) rfl (fun j u hu => ?_) (ddcells_one d)
    rw [add_0, cell_blk (heap_alloc_new W _)]
    simpa using hu
  obtain ⟨v', w2, hr, h2, hg, hb⟩ := hrow.append (P := Tryz.prog) 58 58 58 i _ 64 Tryz.underlying58 hi hz0 hz1 hz2 (by rfl) _ 1 (ddcells d) hsrc (by omega) (by unfold maxLen; omega) (by omega)
  refine ⟨v', w2, hr, h2, ⟨hg.os, hg.tape, hg.output, Nat.le_trans (by simp) hg.size, fun k hk hne => (hg.block k (by simp; omega) hne).trans (Below.heap_alloc W _ k hk)⟩, ?_⟩
  rcases hb with e | e
  · exact .inl e
  · exact .inr fun k hk => by rw [hk] at e; simp at e; omega
end Go.Proofs.YtpkhghjmelgpeaaGreat.Wk
