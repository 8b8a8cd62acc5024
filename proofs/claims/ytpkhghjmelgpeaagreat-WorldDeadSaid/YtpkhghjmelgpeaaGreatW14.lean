/- change: a write in a file. -/
import Derived.Test.YtpkhghjmelgpeaaGreatW13
import Derived.Test.YtpkhghjmelgpeaaGreatM2
set_option linter.unusedVariables false
namespace Go.Proofs.YtpkhghjmelgpeaaGreat.Wk
open Go.ChangeShapes Go.WideShapes Go.ChangeAt Go.RowKit M

/-- A file's own blocks and the count of writes have changed. -/
theorem file_rep {own own' : Own} {w w' : World} {p : Nat} {s : St} {g : Gh} (h : Rep own w p s g) (i : Nat) (F : Fs → Fs) (hF : ∀ f, (F f).name = f.name) (n : Nat) (f : Fs) (hf : s.fs[i]? = some f)
    (os : w'.os = w.os) (tp : w'.tape = w.tape) (out : w'.output = w.output) (sz : w.heap.size ≤ w'.heap.size) (ho : Owns own' w') (hold : ∀ k, k < w.heap.size → own' k = own k)
    (hk : ∀ k, k < w.heap.size → k ≠ p → (∀ j, own k ≠ some (.f i j)) → w'.heap[k]? = w.heap[k]?)
    (hp : w'.heap[p]? = some (.cells #[g.cv, .int .i64 s.clock, .bool s.dead, g.tv, .map (some g.fm), .int .i64 n, .map (some g.hm), .int .i64 s.hs.length, .int .i64 (live s.hs)] 90 (0, 0)))
    (hfi : FileR own' w' (g.fb i) i (F f)) (hwf : Wf { s with writes := n, fs := setF s.fs i F }) :
    Rep own' w' p { s with writes := n, fs := setF s.fs i F } g ∧ Fr own w own' w' noE := by
  have hm : More w own own' := fun k l e => (hold k (h.owns k (by rw [e]; simp))).trans e
  have hlab : ∀ k l, own k = some l → l ≠ .w → (∀ j, l ≠ .f i j) → w'.heap[k]? = w.heap[k]? := fun k l e h1 h2 => hk k (h.owns k (by rw [e]; simp)) (by intro e2; subst e2; rw [h.wown] at e; cases e; exact h1 rfl) (fun j e2 => by rw [e] at e2; cases e2; exact h2 j rfl)
  refine ⟨⟨ho, hm _ _ h.wown, hp, ?_, ?_, fun k e => hm _ _ (h.town k e), hm _ _ h.fown, ?_, ?_, hm _ _ h.hown, ?_, h.his, ?_, ?_, hwf⟩, ⟨os, tp, out, sz, hold, fun k h1 h2 _ => hk k h1 (by intro e; subst e; rw [h.wown] at h2; cases h2) (fun j e => by rw [h2] at e; cases e)⟩⟩
  · exact h.chs.kept hm fun k l e hl => by subst hl; exact hlab k _ e (by simp) (by simp)
  · exact h.trow.kept fun k e => hlab k _ (h.town k e) (by simp) (by simp)
  · exact ownsMap_kept h.fmap (hlab _ _ h.fown (by simp) (by simp))
  · refine ⟨fun t ht => ?_, ?_⟩
    · show _ = fptr g.fb (find (s.fs.modify i F) t) ∧ _ = (find (s.fs.modify i F) t).isSome
      rw [find_modify s.fs i F hF]; exact h.fis.at_ t ht
    · show _ = named (s.fs.modify i F)
      rw [named_modify s.fs i F hF]; exact h.fis.size
  · exact ownsMap_kept h.hmap (hlab _ _ h.hown (by simp) (by simp))
  · intro j x hx
    change (s.fs.modify i F)[j]? = some x at hx
    rw [get_modify] at hx
    split at hx
    · rename_i e; subst e
      rw [hf] at hx; simp at hx; subst hx; exact hfi
    · rename_i hne
      exact (h.files j x hx).kept hm fun k l e hl => hlab k l e (by obtain ⟨_, rfl⟩ := hl; simp) (by obtain ⟨_, rfl⟩ := hl; intro q e2; cases e2; exact hne rfl)
  · exact fun j x hx => (h.hands j x hx).kept hm fun k l e hl => hlab k l e (by subst hl; simp) (by subst hl; simp)

def Changed (own : Own) (w : World) (p : Nat) (s : St) (g : Gh) (e : Ending) (w' : World) : Prop :=
  ∃ own', e = .returned (.tuple #[]) ∧ Rep own' w' p s g ∧ Fr own w own' w' noE

theorem infoWr : (Tryz.prog.info? 149).map (fun i => (i.zero, i.size, i.bytes)) = some (some (.agg #[.int .i64 0, .bool false, .int .i64 0, .string ⟨#[]⟩]), 4, 40) := by kernel_rfl
theorem wrcells_one (c : Wr) : ∀ u ∈ wrcells c, u.oneCell' = true := by intro u hu; simp [wrcells] at hu; rcases hu with rfl | rfl | rfl | rfl <;> rfl
/-- The unsynced writes, one more. -/
theorem append_write (W : World) (v : Value) (l : List Wr) (hrow0 : Row W 149 4 v l.length (l.flatMap wrcells)) (c : Wr) (ht : l.length ≤ 1099511627776) :
    ∃ v' w2, (Builtin.append_ #[119, 119] 119 #[v, .slice (some ⟨W.heap.size, 0, none⟩) 1 1]).run Tryz.prog (W.alloc (.cells (wrcells c).toArray 149)) = .ok v' w2 ∧
      Row w2 149 4 v' (l ++ [c]).length ((l ++ [c]).flatMap wrcells) ∧ W.grownBy w2 (blk v) ∧ (blk v' = blk v ∨ ∀ k, blk v' = some k → W.heap.size ≤ k) := by
  obtain ⟨i, hi, hz0, hz1, hz2⟩ := info_parts infoWr
  have hrow : Row (W.alloc (.cells (wrcells c).toArray 149)) 149 4 v l.length (l.flatMap wrcells) := hrow0.kept fun k hk => Below.heap_alloc W _ k (hrow0.lt k hk)
  have hsrc : Src Tryz.prog 4 119 (.slice (some ⟨W.heap.size, 0, none⟩) 1 1) 1 (wrcells c) (W.alloc (.cells (wrcells c).toArray 149)) := by
    refine Src.ofSlice (P := Tryz.prog) _ Tryz.underlying119 _ 1 1 (wrcells c) rfl (fun j u hu => ?_) (wrcells_one c)
    rw [add_0, cell_blk (heap_alloc_new W _)]
    simpa using hu
  obtain ⟨v', w2, hr, h2, hg, hb⟩ := hrow.append (P := Tryz.prog) 119 119 119 i _ 40 Tryz.underlying119 hi hz0 hz1 hz2 (by rfl) _ 1 (wrcells c) hsrc (by omega) (by unfold maxLen; omega) (by omega)
  refine ⟨v', w2, hr, by simpa using h2, ⟨hg.os, hg.tape, hg.output, Nat.le_trans (by simp) hg.size, fun k hk hne => (hg.block k (by simp; omega) hne).trans (Below.heap_alloc W _ k hk)⟩, ?_⟩
  rcases hb with e | e
  · exact .inl e
  · exact .inr fun k hk => by rw [hk] at e; simp at e; omega
end Go.Proofs.YtpkhghjmelgpeaaGreat.Wk
