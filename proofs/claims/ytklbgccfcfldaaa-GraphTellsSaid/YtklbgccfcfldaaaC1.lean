/- What a store into the heap's own blocks makes of it. -/
import Derived.Test.YtklbgccfcfldaaaB9
set_option linter.unusedVariables false
namespace Go.Proofs.Ytklbgccfcfldaaa.Wk
open Go.ChangeShapes Go.WideShapes Go.ChangeAt Go.RowKit M

theorem hcells_set (g g' : Gh) (s s' : Hp) {i : Nat} {v : Value} (h : ∀ j, j < 4192 → cellAt g' s' j = if j = i then v else cellAt g s j) : (hcells g s).setIfInBounds i v = hcells g' s' := ofFn_set (n := 4192) (cellAt g s) (cellAt g' s') i v h
section
variable {own : Own} {w w' : World} {p : Nat} {s : Hp} {g : Gh}

theorem size_set (w : World) (a : Addr) (v : Value) : (w.setCell a v).heap.size = w.heap.size := by
  show (w.heap.modify _ _).size = _; simp
theorem fr_set {b : Nat} {k : Kd} (hb : own b = some ⟨p, k⟩) (o : Nat) (v : Value) : Fr p own w own (w.setCell ⟨b, o, none⟩ v) noE :=
  ⟨rfl, rfl, rfl, by rw [size_set]; exact Nat.le_refl _, fun _ _ => rfl, fun _ _ _ e => .inr e, fun k' hk h1 _ => blk_set_other _ _ _ _ _ (fun e => h1 ⟨p, k⟩ (by subst e; exact hb) rfl)⟩
theorem Rep.swapW (h : Rep own w p s g) (m : Nat → Int) (hs : w.heap.size ≤ w'.heap.size) (hk : ∀ k l, own k = some l → l.p = p → l.k ≠ .wd → w'.heap[k]? = w.heap[k]?)
    (hc : w'.heap[g.wb]? = some (.cells (wcells { s with mem := m }) 32 (0, 0))) (h0 : Wf0 { s with mem := m }) : Rep own w' p { s with mem := m } g where
  owns := h.owns.mono hs
  hown := h.hown
  hcell := (hk _ _ h.hown rfl (by simp)).trans h.hcell
  wown := h.wown
  wcell := hc
  sown := h.sown
  scell := (hk _ _ h.sown rfl (by simp)).trans h.scell
  grow := h.grow.kept fun k e => hk k _ (h.gown k e) rfl (by simp)
  gown := h.gown
  nrow := h.nrow.kept fun k e => hk k _ (h.nown k e) rfl (by simp)
  nown := h.nown
  nnil := h.nnil
  nmap := fun b e => ⟨(h.nmap b e).1, ownsMap_kept (h.nmap b e).2.1 (hk _ _ (h.nmap b e).1 rfl (by simp)), (h.nmap b e).2.2⟩
  krow := h.krow.kept fun k e => hk k _ (h.kown k e) rfl (by simp)
  kown := h.kown
  qrow := h.qrow.kept fun k e => hk k _ (h.qown k e) rfl (by simp)
  qown := h.qown
  fmap := fun i h1 h2 => ⟨(h.fmap i h1 h2).1, ownsMap_kept (h.fmap i h1 h2).2.1 (hk _ _ (h.fmap i h1 h2).1 rfl (by simp)), (h.fmap i h1 h2).2.2⟩
  w0 := h0
theorem Rep.swapS (h : Rep own w p s g) (st : Nat → Bool) (hs : w.heap.size ≤ w'.heap.size) (hk : ∀ k l, own k = some l → l.p = p → l.k ≠ .sb → w'.heap[k]? = w.heap[k]?)
    (hc : w'.heap[g.sb]? = some (.cells (scells { s with st := st }) 32 (0, 0))) (h0 : Wf0 { s with st := st }) : Rep own w' p { s with st := st } g where
  owns := h.owns.mono hs
  hown := h.hown
  hcell := (hk _ _ h.hown rfl (by simp)).trans h.hcell
  wown := h.wown
  wcell := (hk _ _ h.wown rfl (by simp)).trans h.wcell
  sown := h.sown
  scell := hc
  grow := h.grow.kept fun k e => hk k _ (h.gown k e) rfl (by simp)
  gown := h.gown
  nrow := h.nrow.kept fun k e => hk k _ (h.nown k e) rfl (by simp)
  nown := h.nown
  nnil := h.nnil
  nmap := fun b e => ⟨(h.nmap b e).1, ownsMap_kept (h.nmap b e).2.1 (hk _ _ (h.nmap b e).1 rfl (by simp)), (h.nmap b e).2.2⟩
  krow := h.krow.kept fun k e => hk k _ (h.kown k e) rfl (by simp)
  kown := h.kown
  qrow := h.qrow.kept fun k e => hk k _ (h.qown k e) rfl (by simp)
  qown := h.qown
  fmap := fun i h1 h2 => ⟨(h.fmap i h1 h2).1, ownsMap_kept (h.fmap i h1 h2).2.1 (hk _ _ (h.fmap i h1 h2).1 rfl (by simp)), (h.fmap i h1 h2).2.2⟩
  w0 := h0
/-- The heap's own cells alone have changed. -/
theorem Rep.swapH (h : Rep own w p s g) {s' : Hp} (hs : w.heap.size ≤ w'.heap.size) (hk : ∀ k l, own k = some l → l.p = p → l.k ≠ .hp → w'.heap[k]? = w.heap[k]?)
    (hc : w'.heap[p]? = some (.cells (hcells g s') 71 (0, 0))) (h0 : Wf0 s') (e1 : s'.n = s.n) (e2 : s'.mem = s.mem) (e3 : s'.st = s.st) (e4 : s'.gaps = s.gaps) (e5 : s'.noted = s.noted) (e6 : s'.stack = s.stack) (e7 : s'.queue = s.queue) (e8 : s'.fw = s.fw) : Rep own w' p s' g where
  owns := h.owns.mono hs
  hown := h.hown
  hcell := hc
  wown := h.wown
  wcell := by rw [show wcells s' = wcells s by unfold wcells; rw [e2, e1]]; exact (hk _ _ h.wown rfl (by simp)).trans h.wcell
  sown := h.sown
  scell := by rw [show scells s' = scells s by unfold scells; rw [e3, e1]]; exact (hk _ _ h.sown rfl (by simp)).trans h.scell
  grow := by rw [e4]; exact h.grow.kept fun k e => hk k _ (h.gown k e) rfl (by simp)
  gown := h.gown
  nrow := by rw [e5]; exact h.nrow.kept fun k e => hk k _ (h.nown k e) rfl (by simp)
  nown := h.nown
  nnil := by rw [e5]; exact h.nnil
  nmap := fun b e => ⟨(h.nmap b e).1, ownsMap_kept (h.nmap b e).2.1 (hk _ _ (h.nmap b e).1 rfl (by simp)), by rw [e5]; exact (h.nmap b e).2.2⟩
  krow := by rw [e6]; exact h.krow.kept fun k e => hk k _ (h.kown k e) rfl (by simp)
  kown := h.kown
  qrow := by rw [e7]; exact h.qrow.kept fun k e => hk k _ (h.qown k e) rfl (by simp)
  qown := h.qown
  fmap := fun i h1 h2 => ⟨(h.fmap i h1 h2).1, ownsMap_kept (h.fmap i h1 h2).2.1 (hk _ _ (h.fmap i h1 h2).1 rfl (by simp)), by rw [e8]; exact (h.fmap i h1 h2).2.2⟩
  w0 := h0

/-- A word of the memory is stored. -/
theorem Rep.setW (h : Rep own w p s g) (i : Nat) (v : Int) (hi : i < s.n) (hv : 0 ≤ v ∧ v ≤ 18446744073709551615) :
    Rep own (w.setCell ⟨g.wb, i, none⟩ (.int .u64 v)) p { s with mem := upd s.mem i v } g ∧ Fr p own w own (w.setCell ⟨g.wb, i, none⟩ (.int .u64 v)) noE := by
  refine ⟨?_, fr_set h.wown _ _⟩
  refine h.swapW _ (by rw [size_set]; exact Nat.le_refl _) ?_ ?_ ?_
  · intro k l e hl hk
    exact blk_set_other _ _ _ _ _ (fun q => hk (by rw [q, h.wown] at e; cases e; rfl))
  · rw [blk_set h.wcell]
    congr 2
    exact ofFn_set (n := s.n) (fun j => .int .u64 (s.mem j)) (fun j => .int .u64 (upd s.mem i v j)) i (.int .u64 v) fun j _ => by unfold upd; split <;> rfl
  · have := h.w0
    refine ⟨this.n, ?_, this.st, this.spec, this.cls, this.stack, this.queue, this.roots, this.noted⟩
    intro j; unfold upd; simp only; split
    · exact hv
    · exact this.mem j
/-- An object begins at a word. -/
theorem Rep.setB (h : Rep own w p s g) (a : Nat) (ha : 2 ≤ a ∧ a + 2 ≤ s.n) :
    Rep own (w.setCell ⟨g.sb, a / 64, none⟩ (.int .u64 (bitsOf (upd s.st a true) (a / 64)))) p { s with st := upd s.st a true } g ∧ Fr p own w own (w.setCell ⟨g.sb, a / 64, none⟩ (.int .u64 (bitsOf (upd s.st a true) (a / 64)))) noE := by
  refine ⟨?_, fr_set h.sown _ _⟩
  refine h.swapS _ (by rw [size_set]; exact Nat.le_refl _) ?_ ?_ ?_
  · intro k l e hl hk
    exact blk_set_other _ _ _ _ _ (fun q => hk (by rw [q, h.sown] at e; cases e; rfl))
  · rw [blk_set h.scell]
    congr 2
    exact ofFn_set (n := (s.n + 63) / 64) (fun j => .int .u64 (bitsOf s.st j)) (fun j => .int .u64 (bitsOf (upd s.st a true) j)) (a / 64) (.int .u64 (bitsOf (upd s.st a true) (a / 64))) fun j _ => by
      split
      · rename_i e; rw [e]
      · rename_i e; rw [bitsOf_other _ _ _ _ e]
  · have := h.w0
    refine ⟨this.n, this.mem, ?_, this.spec, this.cls, this.stack, this.queue, this.roots, this.noted⟩
    intro j; unfold upd; simp only; split
    · rename_i e; subst e; intro _; exact ha
    · exact this.st j
/-- A space's top is moved. -/
theorem Rep.setTop (h : Rep own w p s g) (k t : Nat) (hk1 : 1 ≤ k) (hk : k < 6) :
    Rep own (w.setCell ⟨p, 2 + k * 4 + 1, none⟩ (.int .i64 t)) p (topS s k t) g ∧ Fr p own w own (w.setCell ⟨p, 2 + k * 4 + 1, none⟩ (.int .i64 t)) noE := by
  refine ⟨?_, fr_set h.hown _ _⟩
  refine h.swapH (by rw [size_set]; exact Nat.le_refl _) ?_ ?_ ?_ rfl rfl rfl rfl rfl rfl rfl rfl
  · intro b l e hl hk
    exact blk_set_other _ _ _ _ _ (fun q => hk (by rw [q, h.hown] at e; cases e; rfl))
  · rw [blk_set h.hcell, hcells_set g g s (topS s k t)]
    intro j hj
    unfold cellAt
    by_cases e : j = 2 + k * 4 + 1
    · subst e
      rw [if_neg (by omega), if_neg (by omega), if_pos (by omega), if_pos rfl]
      have e1 : (2 + k * 4 + 1 - 2) / 4 = k := by omega
      have e2 : (2 + k * 4 + 1 - 2) % 4 = 1 := by omega
      rw [e1, e2]
      unfold areaCell topS
      simp [upd_same]
    · rw [if_neg e]
      by_cases h1 : j < 26
      · by_cases h0 : j = 0
        · simp [h0, topS]
        · by_cases h2 : j = 1
          · simp [h2, topS]
          · rw [if_neg h0, if_neg h2, if_pos h1, if_neg h0, if_neg h2, if_pos h1]
            unfold areaCell topS
            simp only
            by_cases e3 : (j - 2) / 4 = k
            · rw [e3, upd_same]
              simp only
              have : (j - 2) % 4 ≠ 1 := by omega
              rw [if_neg this, if_neg this]
            · rw [upd_other _ _ _ _ e3]
      · have q0 : ¬ j = 0 := by omega
        have q1 : ¬ j = 1 := by omega
        simp only [q0, q1, h1, if_false]
        rfl
  · exact ⟨h.w0.n, h.w0.mem, h.w0.st, h.w0.spec, h.w0.cls, h.w0.stack, h.w0.queue, h.w0.roots, h.w0.noted⟩
end
end Go.Proofs.Ytklbgccfcfldaaa.Wk
