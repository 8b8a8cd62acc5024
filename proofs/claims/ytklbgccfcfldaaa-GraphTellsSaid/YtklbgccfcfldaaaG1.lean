/- Form. -/
import Derived.Test.YtklbgccfcfldaaaF9
import Derived.Sort.CutIn
set_option linter.unusedVariables false
namespace Go.Proofs.Ytklbgccfcfldaaa.Wk
open Go.ChangeShapes Go.WideShapes Go.ChangeAt Go.RowKit Go.Shelf M
attribute [local go_sem] Oper.semAt_some
attribute [-go_sem] Builtin.append_

/-- In the roots' loop: the closure's box b1 beside. -/
def Nj (B b4 b5 c p : Nat) (q : List Int) (x : CG) (w : World) (v0 : Value) (b1 : Nat) (l : List Int) (W : World) : Prop := ∃ v, Nb B b4 b5 c p q x w v0 v l W ∧ blk v ≠ some b1
theorem Nj.own {B b4 b5 c p : Nat} {q : List Int} {x : CG} {w : World} {v0 : Value} {Bl b1 : Nat} {β : Type} (f : β → List Int) (h : c < Bl ∧ x.m < Bl ∧ x.lb < Bl ∧ b4 < Bl ∧ b5 < Bl ∧ w.heap.size ≤ Bl) : OwnFrom Bl (fun pre W => Nj B b4 b5 c p q x w v0 b1 (f pre) W) := by
  intro s W W' row hs hg hr
  obtain ⟨v, hN, n1⟩ := hs
  obtain ⟨i1, i2, i3, i4, i5, i6⟩ := h
  have hW : ∀ k, k < Bl → k < W.heap.size → W'.heap[k]? = W.heap[k]? := fun k hk hlt => hg.block k hlt (fun e => by have := (hr k e.symm).1; omega)
  have hC : ∀ (k : Nat) (cs : Array Value) (e : TypeId) (fz : Nat × Nat), W.heap[k]? = some (Obj.cells cs e fz) → W'.heap[k]? = W.heap[k]? := fun k cs e fz hc => hg.block k (blk_lt hc) (fun e2 => by
    obtain ⟨-, o, ho, hnc⟩ := hr k e2.symm
    rw [hc] at ho; cases ho; cases hnc)
  have hq : ∀ k, blk x.qv = some k → W'.heap[k]? = W.heap[k]? := fun k e => by
    obtain ⟨cs, fz, hc⟩ := row_cells hN.cs.row e
    exact hC k _ _ _ hc
  have hv : ∀ k, blk v = some k → W'.heap[k]? = W.heap[k]? := fun k e => by
    obtain ⟨cs, fz, hc⟩ := row_cells hN.wr e
    exact hC k _ _ _ hc
  refine ⟨v, ⟨⟨hN.cs.ge, (hC c _ _ _ hN.cs.cell).trans hN.cs.cell, hN.cs.mge, hN.cs.num.kept (hW _ i2 hN.cs.num.lt), hN.cs.row.kept hq, hN.cs.rge, hN.cs.lge, (hW _ i3 (blk_lt hN.cs.leaf)).trans hN.cs.leaf, hN.cs.ne⟩,
    (hC _ _ _ _ hN.box4).trans hN.box4, (hC _ _ _ _ hN.box5).trans hN.box5, hN.wr.kept hv, ?_, hN.ne, hN.sep, hN.sep2⟩, n1⟩
  exact ⟨⟨hg.os.trans hN.gr.g.os, hg.tape.trans hN.gr.g.tape, hg.output.trans hN.gr.g.output, Nat.le_trans hN.gr.g.size hg.size, fun k hk hne => (hW k (by omega) (Nat.lt_of_lt_of_le hk hN.gr.g.size)).trans (hN.gr.g.block k hk hne)⟩, hN.gr.b⟩
theorem Nb.down {B b4 b5 c p : Nat} {q : List Int} {x : CG} {w W W2 : World} {v0 v v2 : Value} {l : List Int} (h : Nb B b4 b5 c p q x w v0 v l W) (hB : B ≤ b5) (hBw : B ≤ W.heap.size) (hvB : ∀ k, blk v = some k → B ≤ k) (hg : Gr W W2 v v2) : Below B W (W2.setCell ⟨b5, 0, none⟩ v2) :=
  ⟨hg.g.os, hg.g.tape, hg.g.output, by rw [size_setc]; exact hg.g.size, fun k hk => by
    rw [blk_set_other _ _ _ _ _ (by omega)]
    exact hg.g.block k (by omega) (fun e => by have := hvB k e.symm; omega)⟩
theorem Nj.put {B b4 b5 c p : Nat} {q : List Int} {x : CG} {w W W2 : World} {v0 v v2 : Value} {l l2 : List Int} {b1 : Nat} {Bl : Nat} (h : Nb B b4 b5 c p q x w v0 v l W) (n1 : blk v ≠ some b1)
    (hb : b1 < W.heap.size ∧ b1 ≠ b5 ∧ B ≤ b5) (hvB : ∀ k, blk v = some k → B ≤ k) (hr : Wr W2 v2 l2) (hg : Gr W W2 v v2) :
    Nj B b4 b5 c p q x w v0 b1 l2 (W2.setCell ⟨b5, 0, none⟩ v2) ∧ KeepsFrom Bl W (W2.setCell ⟨b5, 0, none⟩ v2) ∧ Below B W (W2.setCell ⟨b5, 0, none⟩ v2) := by
  obtain ⟨i1, i2, i3⟩ := hb
  have h5l := blk_lt h.box5
  have hnew : blk v2 ≠ some b1 := fun e => by
    rcases hg.b with e2 | e2
    · exact n1 (by rw [← e2]; exact e)
    · have := e2 b1 e; omega
  exact ⟨⟨v2, h.put hr hg, hnew⟩, h.keeps hg Bl, h.down i3 (by omega) hvB hg⟩

theorem nb_of {B b4 b5 sb c p : Nat} {q : List Int} {x : CG} {X1 W : World} (hc : Cs B X1 p c q x) (h4 : X1.heap[b4]? = some (.cells #[.pointer (some ⟨c, 0, none⟩)] 90 (0, 0))) (a b d : Int) (hb : Below X1.heap.size X1 W)
    (h5 : W.heap[b5]? = some (.cells #[.slice (some ⟨sb, 0, none⟩) 3 3] 42 (0, 0))) (hs : W.heap[sb]? = some (.cells #[.int .u64 a, .int .u64 b, .int .u64 d] 32 (0, 0))) (l5 : X1.heap.size ≤ b5) (ls : X1.heap.size ≤ sb) (hne : b5 ≠ sb) :
    Nb B b4 b5 c p q x X1 (.slice none 0 0) (.slice (some ⟨sb, 0, none⟩) 3 3) [a, b, d] W := by
  have h1 := blk_lt hc.cell
  have h2 := hc.num.lt
  have h3 := blk_lt hc.leaf
  have h4l := blk_lt h4
  have h6 : ∀ k, blk x.qv = some k → k < X1.heap.size := fun k e => hc.row.lt k e
  refine ⟨hc.kept hb (Nat.le_refl _), (hb.block _ h4l).trans h4, h5, ⟨rfl, .inr ⟨sb, 3, _, rfl, by omega, ⟨_, hs, .inl (Nat.le_refl _)⟩, Nat.le_refl _, by unfold maxLen; omega, rfl, rfl⟩⟩, ⟨grown_of hb, .inr fun k e => ?_⟩, fun k e => ?_, ⟨by omega, by omega, by omega, fun e => by have := h6 _ e; omega⟩, ⟨by omega, l5⟩⟩
  · simp [blk] at e; omega
  · simp [blk] at e; subst e
    exact ⟨by omega, by omega, by omega, fun e => by have := h6 _ e; omega, by omega, Ne.symm hne⟩
theorem nb_s1 {B b4 c p : Nat} {q : List Int} {x : CG} {X1 : World} (hc : Cs B X1 p c q x) (h4 : X1.heap[b4]? = some (.cells #[.pointer (some ⟨c, 0, none⟩)] 90 (0, 0))) (a b d : Int) :
    Nb B b4 (X1.heap.size + 1) c p q x X1 (.slice none 0 0) (.slice (some ⟨X1.heap.size, 0, none⟩) 3 3) [a, b, d] ((X1.alloc (.cells #[.int .u64 a, .int .u64 b, .int .u64 d] 32)).alloc (.cells #[.slice (some ⟨X1.heap.size, 0, none⟩) 3 3] 42)).drew := by
  refine nb_of hc h4 a b d ((((Below.refl _ _).alloc (Nat.le_refl _) _).alloc (by simp) _).drew) ?_ ?_ (by omega) (Nat.le_refl _) (by omega)
  · have := heap_alloc_new (X1.alloc (.cells #[.int .u64 a, .int .u64 b, .int .u64 d] 32)) (.cells #[.slice (some ⟨X1.heap.size, 0, none⟩) 3 3] 42)
    rw [World.size_alloc] at this; exact this
  · exact (Below.heap_alloc _ _ _ (by simp)).trans (heap_alloc_new X1 _)
theorem nb_s2 {B b4 c p : Nat} {q : List Int} {x : CG} {X1 : World} (hc : Cs B X1 p c q x) (h4 : X1.heap[b4]? = some (.cells #[.pointer (some ⟨c, 0, none⟩)] 90 (0, 0))) (a b d : Int) :
    Nb B b4 X1.heap.size c p q x X1 (.slice none 0 0) (.slice (some ⟨X1.heap.size + 1, 0, none⟩) 3 3) [a, b, d] ((X1.alloc (.cells #[.slice (some ⟨X1.heap.size + 1, 0, none⟩) 3 3] 42)).alloc (.cells #[.int .u64 a, .int .u64 b, .int .u64 d] 32)).drew := by
  refine nb_of hc h4 a b d ((((Below.refl _ _).alloc (Nat.le_refl _) _).alloc (by simp) _).drew) ?_ ?_ (Nat.le_refl _) (by omega) (by omega)
  · exact (Below.heap_alloc _ _ _ (by simp)).trans (heap_alloc_new X1 _)
  · have := heap_alloc_new (X1.alloc (.cells #[.slice (some ⟨X1.heap.size + 1, 0, none⟩) 3 3] 42)) (.cells #[.int .u64 a, .int .u64 b, .int .u64 d] 32)
    rw [World.size_alloc] at this; exact this

theorem restL_len {s : Hp} (hw : Wf s) {a : Nat} (ha : s.st a = true) : (restL s a).length ≤ 65536 := by
  have h1 := (wf_hd hw ha).2.2.2
  unfold restL
  split
  · simp; exact h1
  · simp only [List.length_map, List.length_range]
    unfold nBytes
    split <;> omega
theorem objL_len {s : Hp} (hw : Wf s) (q : List Int) {a : Nat} (ha : s.st a = true) : (objL s q a).length ≤ 131074 := by
  have h1 := (wf_hd hw ha).2.2.2
  have h2 := nOops_le hw ha
  have h3 := restL_len hw ha
  unfold objL headL oopsL
  simp only [List.length_append, List.length_map, List.length_range, List.length_cons, List.length_nil]
  omega
theorem flat_len {α : Type} (f : α → List Int) (M : Nat) : ∀ l : List α, (∀ o ∈ l, (f o).length ≤ M) → (l.flatMap f).length ≤ l.length * M
  | [], _ => by simp
  | o :: r, h => by
    have h1 := h o (by simp)
    have h2 := flat_len f M r fun u hu => h u (by simp [hu])
    simp only [List.flatMap_cons, List.length_append, List.length_cons, Nat.add_mul, Nat.one_mul]
    omega
theorem hd_ok {s : Hp} (hw : Wf s) {a : Nat} (ha : s.st a = true) : hdB (uC (s.mem a)) (uF (s.mem a)) (uS (s.mem a)) (uH (s.mem a)) 0 (sl s a) = true := by
  have h1 := ((unB_iff _ _).1 (hw.st a ha).2.2).2.2
  rw [(wf_hd hw ha).2.2.1] at h1
  rw [hdB_iff] at h1 ⊢
  omega
theorem reach_vd (s : Hp) : Vd s (reachL s) := by
  have h1 : ∀ (f i : Nat) (q : List Int), Vd s q → Vd s (fol s [] f i q) := by
    intro f
    induction f with
    | zero => exact fun i q hq => hq
    | succ f ih =>
      intro i q hq
      cases e : q[i]? with
      | none => rw [fol_end _ _ _ _ _ e]; exact hq
      | some o => rw [fol_step _ _ _ _ _ e]; exact ih _ _ (visL_vd _ _ hq)
  exact h1 s.n 0 _ (visL_vd (roots s) [] (vd_nil s))

set_option maxRecDepth 100000 in
set_option maxHeartbeats 4000000 in
theorem form_any (own : Own) (w : World) (p : Nat) (s : Hp) (g : Gh) (h : Rep own w p s g) (hw : Wf s) (hqn : s.queue.length ≤ 4194304) :
    Calls Try.prog 10 #[.pointer (some ⟨p, 0, none⟩)] w fun e w' => ∃ v, e = .returned v ∧ Wr w' v (formL s) ∧ (∀ k, blk v = some k → w.heap.size ≤ k) ∧ Below w.heap.size w w' := by
  refine (callsIn_wide (n := 9)).1 ?_
  refine callsIn_of_wp_marks Try.func10 rfl trivial ?_ rfl
  simp only [Try.ntmps10, List.size_toArray, List.length_cons, List.length_nil, Nat.reduceAdd, Nat.reduceSub, Array.replicate_succ, Array.replicate_zero, List.push_toArray, List.append_toArray, List.nil_append, List.cons_append]
  have hB : ∀ k, own k ≠ none → k < w.heap.size := h.owns
  have HR := reached_any own w p s g h hw
  have hlen : (reachL s).length ≤ 4194304 := by
    have h1 : ∀ (f i : Nat) (q : List Int), Vd s q → Vd s (fol s [] f i q) := by
      intro f
      induction f with
      | zero => exact fun i q hq => hq
      | succ f ih =>
        intro i q hq
        cases e : q[i]? with
        | none => rw [fol_end _ _ _ _ _ e]; exact hq
        | some o => rw [fol_step _ _ _ _ _ e]; exact ih _ _ (visL_vd _ _ hq)
    have h2 := vd_len hw (h1 s.n 0 _ (visL_vd (roots s) [] (vd_nil s)))
    have h3 := hw.n
    exact Nat.le_trans h2 h3
  obtain ⟨rl, hrl⟩ : ∃ rl, (reachL s).length = rl := ⟨_, rfl⟩
  have hR2 := HR.mono (R' := fun e w1 => ∃ c x X1, e = .returned (.pointer (some ⟨c, 0, none⟩)) ∧ X1 = w1.alloc (.cells #[.pointer (some ⟨c, 0, none⟩)] 90) ∧ (Cs w.heap.size X1 p c (reachL s) x ∧ Below w.heap.size w X1 ∧ X1.heap[w1.heap.size]? = some (.cells #[.pointer (some ⟨c, 0, none⟩)] 90 (0, 0)) ∧ c < w1.heap.size ∧ x.m < w1.heap.size ∧ x.lb < w1.heap.size ∧ (∀ k, blk x.qv = some k → k < w1.heap.size))) (by
    rintro e w1 ⟨c, x, rfl, hc, hb⟩
    have hb2 : Below w1.heap.size w1 (w1.alloc (.cells #[.pointer (some ⟨c, 0, none⟩)] 90)) := (Below.refl _ _).alloc (Nat.le_refl _) _
    exact ⟨c, x, _, rfl, rfl, hc.kept hb2 (Nat.le_refl _), hb.trans (hb2.mono hb.size), heap_alloc_new w1 _, blk_lt hc.cell, hc.num.lt, blk_lt hc.leaf, fun k e => hc.row.lt k e⟩)
  have HH := Lib.hid h
  have HLN := Lib.hid hlen
  clear h HR hlen
  gi_wp2_with (refine ⟨trivial, ?_⟩; gi_at_call 29; refine (callsIn_wide.2 hR2).mono ?_; rintro e w1 ⟨c, x, X1, rfl, hX1, hF⟩; have HX1 := Lib.hid hX1; have HF := Lib.hid hF; clear hX1 hF hR2)
  rw [← HX1.out]
  have HRX := Lib.hid (HH.out.low hB HF.out.2.1)
  obtain ⟨qa, qc, hqv, -⟩ := HF.out.1.row.cells
  rw [hrl] at hqv
  have c2 : X1.cell? ⟨c, 2, none⟩ = some (.slice qa rl qc) := by rw [cell_blk HF.out.1.cell]; simp [cenV, hqv]
  have c3 := cell_blk HF.out.2.2.1 0
  have hcl := blk_lt HF.out.1.cell
  have HQV := Lib.hid hqv
  clear hqv
  have hD : ∀ Y, Below X1.heap.size X1 Y → (Y.cell? ⟨w1.heap.size, 0, none⟩ = some (.pointer (some ⟨c, 0, none⟩)) ∧ Y.cell? ⟨c, 2, none⟩ = some (.slice qa rl qc) ∧ c < Y.heap.size) ∧
      Calls Try.prog 30 #[.pointer (some ⟨p, 0, none⟩)] Y (fun e w' => e = .returned (.int .i64 s.stack.length) ∧ Y = w') ∧ Calls Try.prog 31 #[.pointer (some ⟨p, 0, none⟩)] Y (fun e w' => e = .returned (.int .i64 s.queue.length) ∧ Y = w') := fun Y hY => by
    have hRY := HRX.out.below hY (Nat.le_refl _)
    refine ⟨⟨(cell_of_heap (hY.block _ (blk_lt HF.out.2.2.1)) 0).trans c3, (cell_of_heap (hY.block _ hcl) 2).trans c2, Nat.lt_of_lt_of_le hcl hY.size⟩, depth_any own Y p s g hRY, queued_any own Y p s g hRY⟩
  have HD := Lib.hid hD
  clear hD
  have hst : s.stack.length ≤ 4096 := HRX.out.w0.stack
  obtain ⟨sn, hsn⟩ : ∃ sn, s.stack.length = sn := ⟨_, rfl⟩
  obtain ⟨qn, hqq⟩ : ∃ qn, s.queue.length = qn := ⟨_, rfl⟩
  have HSQ := Lib.hid (And.intro hsn hqq)
  rw [hsn, hqq] at HD
  rw [hsn] at hst
  rw [hqq] at hqn
  clear hsn hqq
  have i1 : IntKind.u64.wrap (rl : Int) = (rl : Int) := by rw [IntKind.wrap_u64]; have := HLN.out; omega
  have i2 : IntKind.u64.wrap (sn : Int) = (sn : Int) := by rw [IntKind.wrap_u64]; omega
  have i3 : IntKind.u64.wrap (qn : Int) = (qn : Int) := by rw [IntKind.wrap_u64]; omega
  gi_cut [4] from 59 (fun s4 wc => ∃ b5 v, s4 = .pointer (some ⟨b5, 0, none⟩) ∧ Hid (Nb w.heap.size w1.heap.size b5 c p (reachL s) x X1 (.slice none 0 0) v [(rl : Int), sn, qn] wc))
  · refine wpIn_wide.2 ?_
    go_region_held3 (fun Y => Y.cell? ⟨w1.heap.size, 0, none⟩ = some (.pointer (some ⟨c, 0, none⟩)) ∧ Y.cell? ⟨c, 2, none⟩ = some (.slice qa rl qc) ∧ c < Y.heap.size)
      (first
        | with_reducible exact (HD.out _ ((Below.refl _ _).drew)).1
        | with_reducible exact (HD.out _ (((Below.refl _ _).alloc (Nat.le_refl _) _).drew)).1
        | with_reducible exact (HD.out _ ((((Below.refl _ _).alloc (Nat.le_refl _) _).alloc (by simp) _).drew)).1
        | fail)
      (first
        | (go_at_call 30; (first | refine (HD.out _ ((Below.refl _ _).drew)).2.1.mono ?_ | refine (HD.out _ (((Below.refl _ _).alloc (Nat.le_refl _) _).drew)).2.1.mono ?_); rintro e w2 ⟨rfl, rfl⟩)
        | (go_at_call 31; (first | refine (HD.out _ ((Below.refl _ _).drew)).2.2.mono ?_ | refine (HD.out _ (((Below.refl _ _).alloc (Nat.le_refl _) _).drew)).2.2.mono ?_); rintro e w2 ⟨rfl, rfl⟩))
    all_goals gi_wp2
    all_goals gi_meet
    all_goals (first
      | exact ⟨_, _, rfl, Lib.hid (nb_s1 HF.out.1 HF.out.2.2.1 _ _ _)⟩
      | exact ⟨_, _, rfl, Lib.hid (nb_s2 HF.out.1 HF.out.2.2.1 _ _ _)⟩)
  obtain ⟨b5, v, rfl, HN⟩ := hcut
  clear HD i1 i2 i3 c2 c3
  gi_wp2_with (refine ⟨trivial, ?_⟩; gi_at_call 32; refine (callsIn_wide.2 (rootsF_any wc p)).mono ?_; rintro e w2 ⟨rfl, hw2⟩)
  rw [← hw2]
  have hs2 : w2.heap.size = wc.heap.size + 1 := by rw [hw2]; simp
  have b2 : Below wc.heap.size wc w2 := by rw [hw2]; exact (Below.refl _ _).alloc (Nat.le_refl _) _
  have hN2 := HN.out.below b2
  have hX1s : w.heap.size ≤ X1.heap.size := HF.out.2.1.size
  have hrep : ∀ W v2 l2, Nb w.heap.size w1.heap.size b5 c p (reachL s) x X1 (.slice none 0 0) v2 l2 W → Rep own W p s g := fun W v2 l2 hN => HRX.out.gr hN.gr (fun k e => by simp [blk] at e)
  have hvB : ∀ W v2 l2, Nb w.heap.size w1.heap.size b5 c p (reachL s) x X1 (.slice none 0 0) v2 l2 W → ∀ k, blk v2 = some k → X1.heap.size ≤ k := fun W v2 l2 hN k e => by
    rcases hN.gr.b with e2 | e2
    · rw [e2] at e; simp [blk] at e
    · exact e2 k e
  have hR2 := hrep w2 _ _ hN2
  have hXc : X1.heap.size ≤ wc.heap.size := HN.out.gr.g.size
  have hBl : w.heap.size ≤ w2.heap.size := by omega
  have hb1c : w2.heap[wc.heap.size]? = some (.cells #[.pointer (some ⟨p, 0, none⟩)] 25 (0, 0)) := by rw [hw2]; exact heap_alloc_new wc _
  have hnq : blk v ≠ some wc.heap.size := fun e => by have := HN.out.wr.lt _ e; omega
  have h5l := blk_lt HN.out.box5
  have hcl3 := blk_lt HN.out.cs.cell
  have hml3 := HN.out.cs.num.lt
  have hll3 := blk_lt HN.out.cs.leaf
  have h4l := blk_lt HN.out.box4
  have h5s := HN.out.sep2.2
  have hI0 : Nj w.heap.size w1.heap.size b5 c p (reachL s) x X1 (.slice none 0 0) wc.heap.size [(rl : Int), sn, qn] w2 := ⟨v, hN2, hnq⟩
  have hrl2 : (reachL s).length ≤ 1099511627776 := by rw [hrl]; have := HLN.out; omega
  have hRB : (roots s).length ≤ 4194304 + 65536 := by
    have q1 := HRX.out.w0.spec
    have q2 := HRX.out.w0.cls
    have q3 := HSQ.out
    unfold roots
    simp only [List.length_append]; omega
  have HRB := Lib.hid hRB
  clear hRB hw2
  refine wpIn_rangeFunc_ownG (F := Fence.wide) (n := 9) rfl (by omega) (gf := 59) (lb := #[.pointer (some ⟨wc.heap.size, 0, none⟩)]) rfl trivial (enters_of Try.func59 (by kernel_rfl) rfl)
    (roots1_stops own w2 p s g hR2 w.heap.size wc.heap.size 8 (by omega) hB hBl hb1c) belowK_t (belowK_b hBl) (Below.refl _ _) (fun _ => rfl)
    (fun pre W => Nj w.heap.size w1.heap.size b5 c p (reachL s) x X1 (.slice none 0 0) wc.heap.size ([(rl : Int), sn, qn] ++ pre.map fun z => nameL (reachL s) z.1) W ∧ w2.heap.size ≤ W.heap.size) (fun _ _ _ => False)
    (OwnFrom.and (Nj.own (fun pre => [(rl : Int), sn, qn] ++ List.map (fun z : Ow => nameL (reachL s) z.1) pre) ⟨by omega, by omega, by omega, by omega, by omega, by omega⟩) (fun _ _ _ _ hs hg _ => Nat.le_trans hs hg.size)) (fun _ _ _ _ _ hs _ _ => hs) ⟨by simpa using hI0, Nat.le_refl _⟩
    (fun z => { tmps := #[.pointer (some ⟨p, 0, none⟩), undef, .slice none 0 0, .pointer (some ⟨w1.heap.size, 0, none⟩), .pointer (some ⟨b5, 0, none⟩), .int .u64 z.1, undef, undef, undef, undef, .pointer (some ⟨p, 0, none⟩), .pointer (some ⟨c, 0, none⟩), u12, u13, u14, u15, u16, u17, u18, u19, u20, u21, u22, u23, u24, .pointer (some ⟨p, 0, none⟩), .func (.func 59) #[] #[.pointer (some ⟨wc.heap.size, 0, none⟩)], .int .u64 z.1, undef, undef, undef, undef, undef, undef, undef, undef, undef, undef, undef, undef, undef, undef, undef, undef, undef, undef, undef, undef, undef, undef, undef, undef, undef, undef, undef, undef, undef, undef, undef], defers := [] }) ?assign ?body ?done ?stop
  case assign =>
    intro l z W K hK
    simp only [encR]
    gi_wp2
    exact hK
  case body =>
    rintro l1 pre z W hI hlen2
    obtain ⟨⟨v2, hN, n1'⟩, hsz⟩ := hI
    have hmx : Try.prog.follows .mixedOrders = true := by kernel_rfl
    have hlenp : pre.length ≤ 4194304 + 65536 := by have := HRB.out; omega
    have hNm := name_any W.drew p x.m x.k x.D (reachL s) (hN.cs.num.kept rfl) hrl2 z.1 z.2
    have hap : ∀ w2', Below W.drew.heap.size W.drew w2' → ∃ v3 w4, (w2'.cell? ⟨b5, 0, none⟩ = some v2 ∧ w2'.cell? ⟨w1.heap.size, 0, none⟩ = some (.pointer (some ⟨c, 0, none⟩)) ∧ w2'.cell? ⟨c, 0, none⟩ = some (.pointer (some ⟨p, 0, none⟩)) ∧ w2'.cell? ⟨c, 1, none⟩ = some (.map (some x.m)) ∧ c < w2'.heap.size ∧ b5 < w2'.heap.size) ∧
        (Builtin.append_ #[42, 42] 42 #[v2, .slice (some ⟨w2'.heap.size, 0, none⟩) 1 1]).run Try.prog (w2'.alloc (.cells #[.int .u64 (nameL (reachL s) z.1)] 32)) = .ok v3 w4 ∧
        (w4.cell? ⟨b5, 0, none⟩ = some v2 ∧ w4.frozen? ⟨b5, 0, none⟩ = false ∧ b5 < w4.heap.size ∧ ∃ a3 n3 c3, v3 = .slice a3 n3 c3) ∧
        (Nj w.heap.size w1.heap.size b5 c p (reachL s) x X1 (.slice none 0 0) wc.heap.size ([(rl : Int), sn, qn] ++ (pre ++ [z]).map fun z => nameL (reachL s) z.1) (w4.setCell ⟨b5, 0, none⟩ v3) ∧ KeepsFrom w2.heap.size W (w4.setCell ⟨b5, 0, none⟩ v3) ∧ Below w.heap.size W (w4.setCell ⟨b5, 0, none⟩ v3)) := fun w2' hb => by
      have hbW : Below W.heap.size W w2' := (Below.drew (Below.refl _ _)).trans hb
      have hN2' := hN.below hbW
      obtain ⟨v3, w4, a1', a2', a3'⟩ := append_w1 w2' v2 _ (nameL (reachL s) z.1) hN2'.wr (by simp; omega)
      have hg4 : Gr W w4 v2 v3 := (Gr.of_below v2 hbW).trans a3'
      have h5 : w4.heap[b5]? = _ := (a3'.g.block _ (blk_lt hN2'.box5) (fun e => (hN2'.ne _ e.symm).2.2.2.2.2 rfl)).trans hN2'.box5
      obtain ⟨a3, c3, e3⟩ := a2'.form
      refine ⟨v3, w4, ⟨cell_blk hN2'.box5 0, cell_blk hN2'.box4 0, cell_blk hN2'.cs.cell 0, cell_blk hN2'.cs.cell 1, blk_lt hN2'.cs.cell, blk_lt hN2'.box5⟩, a1', ⟨cell_blk h5 0, frozen_blk h5 0, blk_lt h5, a3, _, c3, e3⟩, ?_⟩
      have hl3 : [(rl : Int), sn, qn] ++ (pre ++ [z]).map (fun z => nameL (reachL s) z.1) = ([(rl : Int), sn, qn] ++ pre.map fun z => nameL (reachL s) z.1) ++ [nameL (reachL s) z.1] := by simp
      rw [hl3]
      exact Nj.put hN n1' ⟨by omega, by omega, by omega⟩ (fun k e => by have := hvB W v2 _ hN k e; omega) a2' hg4
    obtain ⟨a2, c2, e2⟩ := hN.wr.form
    obtain ⟨nn, hnn⟩ : ∃ nn, ([(rl : Int), sn, qn] ++ pre.map fun z => nameL (reachL s) z.1).length = nn := ⟨_, rfl⟩
    rw [hnn] at e2
    have g5 := cell_blk hN.box5 0
    have g4 := cell_blk hN.box4 0
    have gc0 := cell_blk hN.cs.cell 0
    have gc1 := cell_blk hN.cs.cell 1
    have gcl := blk_lt hN.cs.cell
    have HAP := Lib.hid hap
    clear hap hnn hN n1'
    subst e2
    simp only [cenV, numV] at gc0 gc1 hNm
    gi_wp2
    gi_region_with_o (refine ⟨trivial, ?_⟩; gi_at_call 33; refine (CallsIn.inRound l1 (callsIn_wide.2 hNm)).mono ?_; rintro e w2 ⟨rfl, hb2⟩; obtain ⟨v3, w4, ⟨g5', g4', gc0', gc1', gcl', g5l'⟩, hrun, ⟨y5, yf, yl, a3, n3, c3, hv3⟩, hfin⟩ := HAP.out w2 hb2; subst hv3; have HFIN := Lib.hid hfin; clear hfin)
    all_goals gi_wp2
    all_goals exact ⟨HFIN.out.2.1, HFIN.out.2.2, HFIN.out.1, Nat.le_trans hsz HFIN.out.2.1.size⟩
  case done =>
    rintro D xs W hD hxs hI hK
    obtain ⟨⟨v2, hN, n1'⟩, hsz⟩ := hI
    have hnames : xs.map (fun z : Ow => nameL (reachL s) z.1) = (roots s).map (nameL (reachL s)) := by rw [← hxs, List.map_map]; rfl
    rw [hnames] at hN
    obtain ⟨bs, hbs⟩ : ∃ bs, [(rl : Int), sn, qn] ++ (roots s).map (nameL (reachL s)) = bs := ⟨_, rfl⟩
    rw [hbs] at hN
    have hbl : bs.length ≤ 4300000 := by rw [← hbs]; have := HRB.out; simp; omega
    have hform : bs ++ (reachL s).flatMap (fun o => objL s (reachL s) (atO o)) = formL s := by
      rw [← hbs]; unfold formL; rw [hrl, HSQ.out.1, HSQ.out.2]
    have HFORM := Lib.hid hform
    have HVD := Lib.hid (reach_vd s)
    have HNN := Lib.hid hN
    have HKK := Lib.hid hK
    have HDD := Lib.hid hD
    have g4 := cell_blk hN.box4 0
    have gc2 := cell_blk hN.cs.cell 2
    have gcl := blk_lt hN.cs.cell
    simp only [cenV] at gc2
    rw [HQV.out] at gc2
    clear hnames hbs hform hN hK n1' hI0 hD
    have hRW : ∀ wr v3 l3, Nb w.heap.size w1.heap.size b5 c p (reachL s) x X1 (.slice none 0 0) v3 l3 wr → l3.length ≤ 1099400000000 → ∀ o, isOb s o = true → wr.heap[D]? = some (.deferred (some [])) →
        (Calls Try.prog 34 #[.pointer (some ⟨p, 0, none⟩), .int .u64 o] wr fun e w' => e = .returned (.tuple #[.agg (hdCells (s.mem (atO o)) (sl s (atO o))), .int .i64 0]) ∧ Below wr.heap.size wr w') ∧
        ∀ w3, Below wr.heap.size wr w3 → Calls Try.prog 35 #[.pointer (some ⟨c, 0, none⟩), v3, .int .u64 o, hdV (uC (s.mem (atO o))) (uF (s.mem (atO o))) (uS (s.mem (atO o))) (uH (s.mem (atO o))) (uA (s.mem (atO o))) (sl s (atO o)) (uM (s.mem (atO o))) (uN (s.mem (atO o)))] w3 fun e w' =>
          ∃ a4 n4 c4, e = .returned (.slice a4 n4 c4) ∧ (w'.cell? ⟨b5, 0, none⟩ = some v3 ∧ w'.frozen? ⟨b5, 0, none⟩ = false ∧ b5 < w'.heap.size) ∧
            Nb w.heap.size w1.heap.size b5 c p (reachL s) x X1 (.slice none 0 0) (.slice a4 n4 c4) (l3 ++ objL s (reachL s) (atO o)) (w'.setCell ⟨b5, 0, none⟩ (.slice a4 n4 c4)) ∧ (w'.setCell ⟨b5, 0, none⟩ (.slice a4 n4 c4)).heap[D]? = some (.deferred (some [])) := fun wr v3 l3 hN hl3 o hob hKr => by
      have hor := isOb_lt hw hob
      have hst := (isOb_at hw hob).2
      refine ⟨head_y own wr p s g (hrep wr _ _ hN) hw o hor.1 hor.2 hob, fun w3 hb3 => ?_⟩
      have hN3 := hN.below hb3
      have hK3 : w3.heap[D]? = some (.deferred (some [])) := (hb3.block D (blk_lt hKr)).trans hKr
      refine (appendObject_any own w3 p s g (hrep w3 _ _ hN3) hw w.heap.size hB c (reachL s) x hN3.cs (by rw [hrl]; exact hrl ▸ HLN.out) v3 l3 hN3.wr (fun k e => by
        have h1 := hN3.ne k e
        exact ⟨by have := hvB w3 _ _ hN3 k e; omega, h1.1, h1.2.1, h1.2.2.1, h1.2.2.2.1⟩) hl3 o hob _ _ _ _ (uA (s.mem (atO o))) _ (uM (s.mem (atO o))) (uN (s.mem (atO o))) (hd_ok hw hst) rfl).mono ?_
      rintro e w' ⟨v', rfl, hr4, hg4⟩
      obtain ⟨a4, c4, e4⟩ := hr4.form
      have h5 : w'.heap[b5]? = _ := (hg4.g.block _ (blk_lt hN3.box5) (fun e => (hN3.ne _ e.symm).2.2.2.2.2 rfl)).trans hN3.box5
      have hobj : l3 ++ [packA (uC (s.mem (atO o))) (uF (s.mem (atO o))) (uS (s.mem (atO o))) (uH (s.mem (atO o))) 0 false false, (sl s (atO o) : Int)] ++ (oopsL s (atO o)).map (nameL (reachL s)) ++ restL s (atO o) = l3 ++ objL s (reachL s) (atO o) := by
        unfold objL headL
        rw [(wf_hd hw hst).2.2.1]
        simp only [List.append_assoc]
        rfl
      rw [hobj] at hr4
      have hNp := hN3.put hr4 hg4
      refine ⟨a4, _, c4, by rw [← e4], ⟨cell_blk h5 0, frozen_blk h5 0, blk_lt h5⟩, by rw [← e4]; exact hNp, ?_⟩
      rw [blk_set_other _ _ _ _ _ (fun e => by rw [e, hN3.box5] at hK3; cases hK3)]
      exact (hg4.g.block D (blk_lt hK3) (fun e => by
        obtain ⟨cs, fz, hcc⟩ := row_cells hN3.wr e.symm
        rw [hcc] at hK3; cases hK3)).trans hK3
    have HRW := Lib.hid hRW
    clear hRW
    gi_wp2
    gi_loopw [42] (fun iv wr => ∃ (k : Nat) (v3 : Value), k ≤ rl ∧ iv = .int .i64 k ∧ Nb w.heap.size w1.heap.size b5 c p (reachL s) x X1 (.slice none 0 0) v3 (bs ++ ((reachL s).take k).flatMap fun o => objL s (reachL s) (atO o)) wr ∧ wr.heap[D]? = some (.deferred (some []))) (fun iv _ => rl - (intOf iv).toNat)
    case atStart => exact ⟨0, v2, Nat.zero_le _, rfl, by simpa using HNN.out, HKK.out⟩
    case round =>
      obtain ⟨k, v3, hk, rfl, hN, hKr⟩ := hrel
      obtain ⟨l3, hl3⟩ : ∃ l3, (bs ++ ((reachL s).take k).flatMap fun o => objL s (reachL s) (atO o)) = l3 := ⟨_, rfl⟩
      rw [hl3] at hN
      have hl3b : l3.length ≤ 1099400000000 := by
        have q1 := flat_len (fun o => objL s (reachL s) (atO o)) 131074 ((reachL s).take k) fun o ho => objL_len hw _ (isOb_at hw (HVD.out.2 o (List.mem_of_mem_take ho))).2
        have q2 : ((reachL s).take k).length * 131074 ≤ 4194304 * 131074 := Nat.mul_le_mul_right _ (by rw [List.length_take, hrl]; have := HLN.out; omega)
        rw [← hl3, List.length_append]; omega
      by_cases hlt : k < rl
      · have hlt2 : (k : Int) < rl := by omega
        obtain ⟨o, ho⟩ : ∃ o, (reachL s)[k]? = some o := ⟨(reachL s)[k]'(by omega), by simp⟩
        have hob : isOb s o = true := HVD.out.2 o (List.mem_of_getElem? ho)
        obtain ⟨qa', qc', hqv', -, hqx⟩ := hN.cs.row.cells
        rw [HQV.out] at hqv'
        obtain ⟨gq, hqa, hqc⟩ := hqx k (.int .u64 o) (by simp [ocells, ho])
        have hqe : qa = qa' := by cases hqv'; rfl
        rw [← hqe] at hqa
        subst hqa
        obtain ⟨HHd, HAO⟩ := HRW.out wr v3 l3 hN hl3b o hob hKr
        have hstep : l3 ++ objL s (reachL s) (atO o) = bs ++ ((reachL s).take (k + 1)).flatMap fun o => objL s (reachL s) (atO o) := by
          rw [← hl3, List.take_add_one, ho, List.flatMap_append, ← List.append_assoc]; simp
        rw [hstep] at HAO
        have HAO := Lib.hid HAO
        obtain ⟨a2, c2, e2⟩ := hN.wr.form
        have hbx : ∀ w3, Below wr.heap.size wr w3 → w3.cell? ⟨b5, 0, none⟩ = some v3 ∧ w3.cell? ⟨w1.heap.size, 0, none⟩ = some (.pointer (some ⟨c, 0, none⟩)) ∧ b5 < w3.heap.size ∧ w1.heap.size < w3.heap.size := fun w3 hb3 => by
          have q1 := hb3.block _ (blk_lt hN.box5)
          have q2 := hb3.block _ (blk_lt hN.box4)
          exact ⟨(cell_of_heap q1 0).trans (cell_blk hN.box5 0), (cell_of_heap q2 0).trans (cell_blk hN.box4 0), blk_lt (q1.trans hN.box5), blk_lt (q2.trans hN.box4)⟩
        have HBX := Lib.hid hbx
        clear hbx hN hKr hl3 hl3b hstep hqx ho hob hqv' hqe HNN
        obtain ⟨nn, hnn⟩ : ∃ nn, l3.length = nn := ⟨_, rfl⟩
        rw [hnn] at e2
        clear hnn
        subst e2
        dsimp only [hdCells, hdV] at HHd HAO
        generalize uC (s.mem (atO o)) = k0 at *
        generalize uF (s.mem (atO o)) = k1 at *
        generalize uS (s.mem (atO o)) = k2 at *
        generalize uH (s.mem (atO o)) = k3 at *
        generalize uA (s.mem (atO o)) = k4 at *
        generalize uM (s.mem (atO o)) = k5 at *
        generalize uN (s.mem (atO o)) = k6 at *
        generalize ((sl s (atO o) : Nat) : Int) = k7 at *
        gi_wp2_with (first
          | (refine ⟨trivial, ?_⟩; gi_at_call 34; refine (callsIn_wide.2 HHd).mono ?_; rintro e w3 ⟨rfl, hb3⟩; have hb4 : Below wr.heap.size wr (w3.alloc (.cells #[.int .i64 k0, .int .u8 k1, .int .i64 k2, .int .i64 k3, .int .i64 k4, .int .i64 k7, .bool k5, .bool k6] 78)) := hb3.alloc hb3.size _; have HB4 := Lib.hid hb4; obtain ⟨f1, f2, f3, f4⟩ := HBX.out _ hb4; clear hb4)
          | (refine ⟨trivial, ?_⟩; gi_at_call 35; refine (callsIn_wide.2 (HAO.out _ HB4.out)).mono ?_; rintro e w4 ⟨a4, n4, c4, rfl, ⟨y5, yf, yl⟩, hfin⟩; have HFIN := Lib.hid hfin; clear hfin))
        go_roundw
        case rel => exact ⟨k + 1, _, by omega, by simp, HFIN.out.1, HFIN.out.2⟩
        case measure => simp only [intOf]; omega
      · have hke : k = rl := by omega
        subst hke
        have hl4 : l3 = formL s := by
          rw [← hl3, ← HFORM.out, ← hrl, List.take_length]
        rw [hl4] at hN
        have y5 := cell_blk hN.box5 0
        have y5l := blk_lt hN.box5
        obtain ⟨a2, c2, e2⟩ := hN.wr.form
        have HNE := Lib.hid hN
        clear hN hl3 hl4 hl3b
        subst e2
        gi_wp2
        have hN := HNE.out
        refine ⟨by simp, .inl ⟨_, _, rfl, run_takeDeferred hKr, ?_⟩⟩
        have hoth : ∀ j, j ≠ D → (wr.putObj D (.deferred none)).heap[j]? = wr.heap[j]? := fun j hj => World.putObj_heap_other hj
        have hD0 : w.heap.size ≤ D := Nat.le_trans hBl HDD.out
        refine ⟨_, results_tmp rfl _ _ _, .slice a2 (formL s).length c2, rfl, hN.wr.kept fun j e => hoth j (fun r => ?_), fun j e => by have := hvB wr _ _ hN j e; omega, ?_⟩
        · obtain ⟨cs, fz, hcc⟩ := row_cells hN.wr e
          rw [r, hKr] at hcc; cases hcc
        · have hg := hN.gr.g
          have hall : Below w.heap.size w wr := HF.out.2.1.trans ⟨hg.os, hg.tape, hg.output, hg.size, fun j hj => hg.block j (by omega) (by simp [blk])⟩
          exact hall.trans ⟨rfl, rfl, rfl, by simp, fun j hj => hoth j (by omega)⟩
  case stop =>
    rintro D cc pre W _ _ hh _
    exact hh.elim
end Go.Proofs.Ytklbgccfcfldaaa.Wk
