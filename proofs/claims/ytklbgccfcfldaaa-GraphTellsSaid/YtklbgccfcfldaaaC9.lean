/- Push: an oop is laid on the stack of roots. -/
import Derived.Test.YtklbgccfcfldaaaC8
set_option linter.unusedVariables false
namespace Go.Proofs.Ytklbgccfcfldaaa.Wk
open Go.ChangeShapes Go.WideShapes Go.ChangeAt Go.RowKit M

theorem add_0 (b o j : Nat) : (⟨b, o, none⟩ : Addr).add j = ⟨b, o + j, none⟩ := by unfold Addr.add; split <;> simp_all
/-- One element of one cell more. -/
theorem append_one (t e : TypeId) (z : Value) (ht : Try.prog.underlying t = some (.slice e)) (hinf : (Try.prog.info? e).map (fun i => (i.zero, i.size, i.bytes)) = some (some z, 1, 8)) (hzs : z.cells.size = 1) (W : World) (v : Value) (n : Nat) (xs : List Value) (hrow0 : Row W e 1 v n xs) (x : Value) (hx : x.oneCell' = true) (hn : n ≤ 1099511627776) :
    ∃ v' w2, (Builtin.append_ #[t, t] t #[v, .slice (some ⟨W.heap.size, 0, none⟩) 1 1]).run Try.prog (W.alloc (.cells #[x] e)) = .ok v' w2 ∧
      Row w2 e 1 v' (n + 1) (xs ++ [x]) ∧ W.grownBy w2 (blk v) ∧ (blk v' = blk v ∨ ∀ k, blk v' = some k → W.heap.size ≤ k) := by
  obtain ⟨i, hi, hz0, hz1, hz2⟩ := info_parts hinf
  have hrow : Row (W.alloc (.cells #[x] e)) e 1 v n xs := hrow0.kept fun k hk => Below.heap_alloc W _ k (hrow0.lt k hk)
  have hsrc : Src Try.prog 1 t (.slice (some ⟨W.heap.size, 0, none⟩) 1 1) 1 [x] (W.alloc (.cells #[x] e)) := by
    refine Src.ofSlice (P := Try.prog) _ ht _ 1 1 [x] rfl (fun j u hu => ?_) (by intro u hu; simp at hu; subst hu; exact hx)
    rw [add_0, cell_blk (heap_alloc_new W _)]
    simpa using hu
  obtain ⟨v', w2, hr, h2, hg, hb⟩ := hrow.append (P := Try.prog) t t t i _ 8 ht hi hz0 hz1 hz2 hzs _ 1 [x] hsrc (by omega) (by unfold maxLen; omega) (by omega)
  refine ⟨v', w2, hr, h2, ⟨hg.os, hg.tape, hg.output, Nat.le_trans (by simp) hg.size, fun k hk hne => (hg.block k (by simp; omega) hne).trans (Below.heap_alloc W _ k hk)⟩, ?_⟩
  rcases hb with e | e
  · exact .inl e
  · exact .inr fun k hk => by rw [hk] at e; simp at e; omega

section
variable {own : Own} {W w2 : World} {p : Nat} {s : Hp} {g : Gh}
theorem Rep.push (h : Rep own W p s g) {v' : Value} {x : Int} (hx : 0 ≤ x ∧ x ≤ 18446744073709551615) (hl : s.stack.length + 1 ≤ 4096) (hrow : Row w2 33 1 v' (s.stack.length + 1) (ocells s.stack ++ [.int .u64 x])) (hg : W.grownBy w2 (blk g.kv)) (hb : blk v' = blk g.kv ∨ ∀ k, blk v' = some k → W.heap.size ≤ k) :
    ∃ own' g', Rep own' (w2.setCell ⟨p, 4189, none⟩ v') p { s with stack := s.stack ++ [x] } g' ∧ Fr p own W own' (w2.setCell ⟨p, 4189, none⟩ v') noE := by
  obtain ⟨own', ho'⟩ : ∃ own' : Own, own' = fun k => if blk v' = some k then some ⟨p, .sk⟩ else own k := ⟨_, rfl⟩
  have hsame : ∀ k l, own k = some l → own' k = some l := fun k l e => by
    rw [ho']; simp only
    split
    · rename_i q
      rcases hb with hb | hb
      · have := h.kown k (by rw [← hb]; exact q)
        rw [e] at this; exact this.symm
      · have := h.owns k (by rw [e]; simp)
        have := hb k q
        omega
    · exact e
  have hoth : ∀ k l, own k = some l → l.k ≠ .hp → l ≠ ⟨p, .sk⟩ → (w2.setCell ⟨p, 4189, none⟩ v').heap[k]? = W.heap[k]? := fun k l e h1 h2 => by
    rw [blk_set_other _ _ _ _ _ (fun q => h1 (by rw [q, h.hown] at e; cases e; rfl))]
    refine hg.block k (h.owns k (by rw [e]; simp)) (fun q => ?_)
    have := h.kown k q.symm
    rw [e] at this; cases this; exact h2 rfl
  have hpk : w2.heap[p]? = W.heap[p]? := hg.block p (blk_lt h.hcell) (fun q => by
    have := h.kown p q.symm
    rw [h.hown] at this; cases this)
  have hsz : (w2.setCell ⟨p, 4189, none⟩ v').heap.size = w2.heap.size := size_set _ _ _
  have hvp : blk v' ≠ some p := fun q => by
    rcases hb with hb | hb
    · have := h.kown p (by rw [← hb]; exact q); rw [h.hown] at this; cases this
    · have := hb p q; have := blk_lt h.hcell; omega
  refine ⟨own', { g with kv := v' }, ?_, ?_⟩
  · refine
    { owns := ?_
      hown := hsame _ _ h.hown
      hcell := ?_
      wown := hsame _ _ h.wown
      wcell := (hoth _ _ h.wown (by simp) (by simp)).trans h.wcell
      sown := hsame _ _ h.sown
      scell := (hoth _ _ h.sown (by simp) (by simp)).trans h.scell
      grow := h.grow.kept fun k e => hoth k _ (h.gown k e) (by simp) (by simp)
      gown := fun k e => hsame _ _ (h.gown k e)
      nrow := h.nrow.kept fun k e => hoth k _ (h.nown k e) (by simp) (by simp)
      nown := fun k e => hsame _ _ (h.nown k e)
      nnil := h.nnil
      nmap := fun b e => ⟨hsame _ _ (h.nmap b e).1, ownsMap_kept (h.nmap b e).2.1 (hoth _ _ (h.nmap b e).1 (by simp) (by simp)), (h.nmap b e).2.2⟩
      krow := ?_
      kown := fun k e => by rw [ho']; simp only; rw [if_pos e]
      qrow := h.qrow.kept fun k e => hoth k _ (h.qown k e) (by simp) (by simp)
      qown := fun k e => hsame _ _ (h.qown k e)
      fmap := fun i h1 h2 => ⟨hsame _ _ (h.fmap i h1 h2).1, ownsMap_kept (h.fmap i h1 h2).2.1 (hoth _ _ (h.fmap i h1 h2).1 (by simp) (by simp)), (h.fmap i h1 h2).2.2⟩
      w0 := ?_ }
    · intro k hk
      rw [hsz]
      rw [ho'] at hk
      simp only at hk
      split at hk
      · rename_i q; exact hrow.lt k q
      · exact Nat.lt_of_lt_of_le (h.owns k hk) hg.size
    · rw [blk_set (hpk.trans h.hcell), hcells_set g { g with kv := v' } s { s with stack := s.stack ++ [x] }]
      intro j hj
      by_cases e : j = 4189
      · subst e; simp [cellAt]
      · rw [if_neg e]
        unfold cellAt
        have q : ¬ j = 4189 := e
        simp only [q, if_false]
        rfl
    · have e1 : ocells (s.stack ++ [x]) = ocells s.stack ++ [.int .u64 x] := by simp [ocells]
      rw [e1]
      simp only [List.length_append, List.length_cons, List.length_nil]
      exact hrow.kept fun k e => blk_set_other _ _ _ _ _ (fun q => hvp (by rw [← q]; exact e))
    · have := h.w0
      refine ⟨this.n, this.mem, this.st, this.spec, this.cls, by simp; omega, this.queue, ?_, this.noted⟩
      intro v hv
      simp only [List.mem_append, List.mem_singleton] at hv
      rcases hv with ((hv | hv) | (hv | hv)) | hv
      · exact this.roots v (by simp [hv])
      · exact this.roots v (by simp [hv])
      · exact this.roots v (by simp [hv])
      · subst hv; exact hx
      · exact this.roots v (by simp [hv])
  · refine ⟨hg.os, hg.tape, hg.output, by rw [hsz]; exact hg.size, fun k hk => ?_, fun k l hk e => ?_, fun k hk h1 _ => ?_⟩
    · rw [ho']; simp only
      split
      · rename_i q
        rcases hb with hb | hb
        · exact (h.kown k (by rw [← hb]; exact q)).symm
        · have := hb k q; omega
      · rfl
    · rw [ho'] at e; simp only at e
      split at e
      · cases e; exact .inl rfl
      · exact .inr e
    · rw [blk_set_other _ _ _ _ _ (fun q => h1 _ (by rw [q]; exact h.hown) rfl)]
      exact hg.block k hk (fun q => h1 _ (h.kown k q.symm) rfl)
end
theorem infoOop : (Try.prog.info? 33).map (fun i => (i.zero, i.size, i.bytes)) = some (some (.int .u64 0), 1, 8) := by kernel_rfl

set_option maxHeartbeats 4000000 in
set_option maxRecDepth 100000 in
theorem push_y (own : Own) (w : World) (p : Nat) (s : Hp) (g : Gh) (h : Rep own w p s g) (x : Int) (hx : 0 ≤ x ∧ x ≤ 18446744073709551615) (hok : okV s x = true) (hl : s.stack.length < 4096) :
    Calls Try.prog 9 #[.pointer (some ⟨p, 0, none⟩), .int .u64 x] w fun e w' => e = .returned (.tuple #[.int .i64 s.stack.length, .int .i64 0]) ∧ ∃ own' g', Rep own' w' p { s with stack := s.stack ++ [x] } g' ∧ Fr p own w own' w' noE := by
  have hc := h.stk
  have hf := h.free 4189
  have HS := isStorable_any own w p s g h x hx.1 hx.2
  rw [hok] at HS
  obtain ⟨v', w2, hr, hrow, hg, hb⟩ := append_one 31 33 (.int .u64 0) Try.underlying31 infoOop rfl w g.kv s.stack.length (ocells s.stack) h.krow (.int .u64 x) rfl (by omega)
  have HP := Lib.hid (h.push hx hl hrow hg hb)
  have hp2 : w2.heap[p]? = w.heap[p]? := hg.block p (blk_lt h.hcell) (fun q => by have := h.kown p q.symm; rw [h.hown] at this; cases this)
  have hc2 : w2.cell? ⟨p, 4189, none⟩ = some g.kv := by rw [cell_blk (hp2.trans h.hcell), hcells_get g s 4189 (by omega)]; rfl
  have hf2 : w2.frozen? ⟨p, 4189, none⟩ = false := frozen_blk (hp2.trans h.hcell) 4189
  obtain ⟨a1, c1, e1, -⟩ := h.krow.cells
  obtain ⟨a2, c2, e2, -⟩ := hrow.cells
  rw [e1] at hr hc hc2
  rw [e2] at hr HP
  clear h hok hrow hg hb e1 e2
  generalize s.stack.length = n at *
  have i1 : ((n : Int) == 4096) = false := by simp; omega
  have i2 : (n : Int) < 4096 := by omega
  go_enter Try.func9, Try.ntmps9
  have HR := Lib.hid hr
  clear hr
  go_wp2_with (first
    | (go_at_call 27; refine HS.mono ?_; rintro e w' ⟨rfl, rfl⟩)
    | (at_builtin; refine Lib.wpList_append_run _ rfl _ _ _ _ rfl _ _ rfl rfl _ _ HR.out ?_))
  go_ret2
  exact ⟨rfl, HP.out⟩
end Go.Proofs.Ytklbgccfcfldaaa.Wk
