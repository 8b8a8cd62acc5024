/- Reached; a header, appended. -/
import Derived.Test.YtklbgccfcfldaaaF2
set_option linter.unusedVariables false
namespace Go.Proofs.Ytklbgccfcfldaaa.Wk
open Go.ChangeShapes Go.WideShapes Go.ChangeAt Go.RowKit Go.Shelf M

set_option maxRecDepth 100000 in
set_option maxHeartbeats 4000000 in
theorem Reached_any (own : Own) (w : World) (p : Nat) (s : Hp) (g : Gh) (h : Rep own w p s g) (hw : Wf s) :
    Calls Try.prog 18 #[.pointer (some ⟨p, 0, none⟩)] w fun e w' => ∃ v, e = .returned v ∧ Row w' 33 1 v (reachL s).length (ocells (reachL s)) ∧ (∀ k, blk v = some k → w.heap.size ≤ k) ∧ Below w.heap.size w w' := by
  have HR := reached_any own w p s g h hw
  go_enter Try.func18, Try.ntmps18
  have HR2 := HR.mono (R' := fun e w' => ∃ c qa qc, e = .returned (.pointer (some ⟨c, 0, none⟩)) ∧ w'.cell? ⟨c, 2, none⟩ = some (.slice qa (reachL s).length qc) ∧ c < w'.heap.size ∧ (Row w' 33 1 (.slice qa (reachL s).length qc) (reachL s).length (ocells (reachL s)) ∧ (∀ k, blk (.slice qa (reachL s).length qc) = some k → w.heap.size ≤ k) ∧ Below w.heap.size w w')) (by
    rintro e w1 ⟨c, x, rfl, hc, hb⟩
    obtain ⟨qa, qc, hq, -⟩ := hc.row.cells
    refine ⟨c, qa, qc, rfl, by rw [cell_blk hc.cell]; simp [cenV, hq], blk_lt hc.cell, by rw [← hq]; exact hc.row, by rw [← hq]; exact fun k e => (hc.rge k e).1, hb⟩)
  clear HR
  go_wp2_with (go_at_call 29; refine HR2.mono ?_; rintro e w1 ⟨c, qa, qc, rfl, c2, hcl, hx⟩; have HX := Lib.hid hx; clear hx)
  go_ret
  exact ⟨_, rfl, HX.out⟩

/-- A row of words. -/
abbrev Wr (w : World) (v : Value) (l : List Int) : Prop := Row w 32 1 v l.length (ocells l)
/-- From w to w': the row v may have grown in place into v'. -/
structure Gr (w w' : World) (v v' : Value) : Prop where
  g : w.grownBy w' (blk v)
  b : blk v' = blk v ∨ ∀ k, blk v' = some k → w.heap.size ≤ k
theorem Gr.trans {w1 w2 w3 : World} {v1 v2 v3 : Value} (a : Gr w1 w2 v1 v2) (b : Gr w2 w3 v2 v3) : Gr w1 w3 v1 v3 := by
  refine ⟨⟨b.g.os.trans a.g.os, b.g.tape.trans a.g.tape, b.g.output.trans a.g.output, Nat.le_trans a.g.size b.g.size, fun k hk hne => ?_⟩, ?_⟩
  · refine (b.g.block k (Nat.lt_of_lt_of_le hk a.g.size) (fun e => ?_)).trans (a.g.block k hk hne)
    rcases a.b with e2 | e2
    · exact hne (by rw [← e2]; exact e)
    · have := e2 k e.symm; omega
  · rcases b.b with e2 | e2
    · rcases a.b with e3 | e3
      · exact .inl (e2.trans e3)
      · exact .inr fun k e => e3 k (by rw [← e2]; exact e)
    · exact .inr fun k e => Nat.le_trans a.g.size (e2 k e)
theorem Gr.of_below {w w' : World} (v : Value) (h : Below w.heap.size w w') : Gr w w' v v := ⟨⟨h.os, h.tape, h.output, h.size, fun k hk _ => h.block k hk⟩, .inl rfl⟩
theorem Wr.below {w w' : World} {v : Value} {l : List Int} (h : Wr w v l) (hb : Below w.heap.size w w') : Wr w' v l := h.kept fun k e => hb.block k (h.lt k e)
theorem infoU : (Try.prog.info? 32).map (fun i => (i.zero, i.size, i.bytes)) = some (some (.int .u64 0), 1, 8) := by kernel_rfl
/-- Some words more. -/
theorem append_ws (W : World) (v : Value) (l news : List Int) (h : Wr W v l) (hn : 0 < news.length) (hl : l.length + news.length ≤ 1099511627776) :
    ∃ v' w2, (Builtin.append_ #[42, 42] 42 #[v, .slice (some ⟨W.heap.size, 0, none⟩) news.length news.length]).run Try.prog (W.alloc (.cells (ocells news).toArray 32)) = .ok v' w2 ∧ Wr w2 v' (l ++ news) ∧ Gr W w2 v v' := by
  obtain ⟨i, hi, hz0, hz1, hz2⟩ := info_parts infoU
  have hrow : Row (W.alloc (.cells (ocells news).toArray 32)) 32 1 v l.length (ocells l) := h.kept fun k hk => Below.heap_alloc W _ k (h.lt k hk)
  have hsrc : Src Try.prog 1 42 (.slice (some ⟨W.heap.size, 0, none⟩) news.length news.length) news.length (ocells news) (W.alloc (.cells (ocells news).toArray 32)) := by
    refine Src.ofSlice (P := Try.prog) _ Try.underlying42 _ news.length news.length (ocells news) (by rw [ocells_len]; omega) (fun j u hu => ?_) (by intro u hu; simp [ocells] at hu; obtain ⟨x, -, rfl⟩ := hu; rfl)
    rw [add_0, cell_blk (heap_alloc_new W _)]
    simpa using hu
  obtain ⟨v', w2, hr, h2, hg, hb⟩ := hrow.append (P := Try.prog) 42 42 42 i _ 8 Try.underlying42 hi hz0 hz1 hz2 rfl _ news.length (ocells news) hsrc hn (by unfold maxLen; omega) (by omega)
  refine ⟨v', w2, hr, ?_, ⟨⟨hg.os, hg.tape, hg.output, Nat.le_trans (by simp) hg.size, fun k hk hne => (hg.block k (by simp; omega) hne).trans (Below.heap_alloc W _ k hk)⟩, ?_⟩⟩
  · show Row w2 _ 1 v' (l ++ news).length (ocells (l ++ news))
    rw [List.length_append, show ocells (l ++ news) = ocells l ++ ocells news from by simp [ocells]]
    exact h2
  · rcases hb with e | e
    · exact .inl e
    · exact .inr fun k hk => by rw [hk] at e; simp at e; omega
theorem Wr.form {w : World} {v : Value} {l : List Int} (h : Wr w v l) : ∃ a c, v = .slice a l.length c := by
  obtain ⟨a, c, e, -⟩ := h.cells
  exact ⟨a, c, e⟩

set_option maxRecDepth 100000 in
set_option maxHeartbeats 4000000 in
theorem appendHead_any (w : World) (v : Value) (l : List Int) (h : Wr w v l) (hl : l.length ≤ 1099511627000) (c f s hs a le : Int) (m n : Bool) (hh : hdB c f s hs 0 le = true) :
    Calls Try.prog 61 #[v, hdV c f s hs a le m n] w fun e w' => ∃ v', e = .returned v' ∧ Wr w' v' (l ++ [packA c f s hs 0 false false, le]) ∧ Gr w w' v v' := by
  obtain ⟨Y, hY⟩ : ∃ Y, Y = w.alloc (.cells #[.int .i64 c, .int .u8 f, .int .i64 s, .int .i64 hs, .int .i64 0, .int .i64 le, .bool false, .bool false] 78) := ⟨_, rfl⟩
  have hB : Below w.heap.size w Y := by rw [hY]; exact (Below.refl _ _).alloc (Nat.le_refl _) _
  have hP := pack_y c f s hs 0 le false false Y hh
  have hK : ∀ w2, Below Y.heap.size Y w2 → ∃ v' w3, (Builtin.append_ #[42, 42] 42 #[v, .slice (some ⟨w2.heap.size, 0, none⟩) 2 2]).run Try.prog (w2.alloc (.cells #[.int .u64 (packA c f s hs 0 false false), .int .u64 le] 32)) = .ok v' w3 ∧ Wr w3 v' (l ++ [packA c f s hs 0 false false, le]) ∧ Gr w w3 v v' := fun w2 hb => by
    have h2 := hB.trans (hb.mono hB.size)
    obtain ⟨v', w3, a1, a2, a3⟩ := append_ws w2 v l [packA c f s hs 0 false false, le] (h.below h2) (by simp) (by simp; omega)
    exact ⟨v', w3, a1, a2, (Gr.of_below v h2).trans a3⟩
  obtain ⟨va, vc, hv⟩ := h.form
  have HK := Lib.hid hK
  clear h hK hB
  subst hv
  rw [hY] at hP HK
  clear hY
  go_enter Try.func61, Try.ntmps61
  go_wp2_with (first
    | (go_at_call 66; refine hP.mono ?_; rintro e w2 ⟨rfl, hb2⟩; obtain ⟨v', w3, hr, hx⟩ := HK.out w2 hb2; have HX := Lib.hid hx; clear hx)
    | (at_builtin; refine Lib.wpList_append_run _ rfl _ _ _ _ rfl _ _ rfl rfl _ _ hr ?_))
  go_ret
  exact ⟨v', rfl, HX.out⟩
end Go.Proofs.Ytklbgccfcfldaaa.Wk
