/- A file that is added. -/
import Derived.Test.YtpkhghjmelgpeaaGreatW18
import Derived.Test.YtpkhghjmelgpeaaGreatM3
set_option linter.unusedVariables false
namespace Go.Proofs.YtpkhghjmelgpeaaGreat.Wk
open Go.ChangeShapes Go.WideShapes Go.ChangeAt Go.RowKit M

theorem skey_ne {a b : ByteArray} (h : a ≠ b) : skey a ≠ skey b := by
  unfold skey; intro e; injection e with e
  exact h (by cases a with | mk a => cases b with | mk b => congr; exact Array.ext' e)

set_option maxHeartbeats 2000000 in
theorem newfile_fin {own : Own} {w w1 w2 : World} {p : Nat} {s : St} {g : Gh} (h : Rep own w p s g) {name : ByteArray} {l : List UInt8} {q : Nat} {bv sv : Value} (hn : isName name = true) (hns : name.size ≤ maxLen) (hf : find s.fs name = none) (hl : l.length ≤ 4194304) (hm : named s.fs < 64)
    (hb : Below w.heap.size w w1) (hq : w.heap.size ≤ q) (hqc : w1.heap[q]? = some (.cells #[bv, sv, .slice none 0 0] 121 (0, 0)))
    (hbv : Row w1 5 1 bv l.length (bcells l)) (hsv : Row w1 5 1 sv l.length (bcells l)) (hbl : ∀ k, blk bv = some k → w.heap.size ≤ k ∧ k ≠ q) (hsl : ∀ k, blk sv = some k → w.heap.size ≤ k ∧ k ≠ q) (hbs : ∀ k, blk bv = some k → blk sv ≠ some k)
    {nf' : Nat} (hmap : w2.ownsMap Tryz.prog 9 Rp g.fm nf' (g.Df.put (skey name) (pd q))) (hg : w1.grownBy w2 (some g.fm)) :
    ∃ own', Rep own' w2 p { s with fs := s.fs ++ [⟨name, l, l, []⟩] } { g with Df := g.Df.put (skey name) (pd q), nf := nf', fb := fun k => if k = s.fs.length then q else g.fb k } ∧ Fr own w own' w2 noE := by
  have hne := name_ne hn
  have hs1 := hb.size
  have hs2 := hg.size
  have hql := blk_lt hqc
  have hbvl := hbv.lt
  have hsvl := hsv.lt
  obtain ⟨own', ho⟩ : ∃ own' : Own, own' = fun k => if k = q then some (.f s.fs.length 0) else if blk bv = some k then some (.f s.fs.length 1) else if blk sv = some k then some (.f s.fs.length 2) else own k := ⟨_, rfl⟩
  have hold : ∀ k, k < w.heap.size → own' k = own k := fun k hk => by
    rw [ho]; simp only
    rw [if_neg (by omega), if_neg (fun e => by have := (hbl k e).1; omega), if_neg (fun e => by have := (hsl k e).1; omega)]
  have hnew : More w own own' := fun k x e => (hold k (h.owns k (by rw [e]; simp))).trans e
  have hfml := h.owns g.fm (by rw [h.fown]; simp)
  have hother : ∀ k, k < w.heap.size → own k ≠ some .fm → w2.heap[k]? = w.heap[k]? := fun k hk h2 => (hg.block k (by omega) (by intro e; cases e; exact h2 h.fown)).trans (hb.block k hk)
  have hlab : ∀ k x, own k = some x → x ≠ .fm → w2.heap[k]? = w.heap[k]? := fun k x e h2 => hother k (h.owns k (by rw [e]; simp)) (by rw [e]; intro e2; cases e2; exact h2 rfl)
  have hlate : ∀ k, w.heap.size ≤ k → k < w1.heap.size → w2.heap[k]? = w1.heap[k]? := fun k hk hk2 => hg.block k hk2 (by intro e; cases e; omega)
  have hDm := h.fmap.isMap
  have hkey := lawS.key (Go.WideMaps.keyOf_string_mk Tryz.underlying9 hns)
  refine ⟨own', ⟨?_, hnew _ _ h.wown, ?_, ?_, ?_, fun k e => hnew _ _ (h.town k e), hnew _ _ h.fown, hmap, ?_, hnew _ _ h.hown, ?_, h.his, ?_, ?_, wf_new h.wf name l hn hf hl hm⟩, ⟨hg.os.trans hb.os, hg.tape.trans hb.tape, hg.output.trans hb.output, by omega, hold, fun k hk h1 _ => hother k hk (by rw [h1]; simp)⟩⟩
  · intro k hk
    rw [ho] at hk
    simp only at hk
    split at hk
    · omega
    · split at hk
      · rename_i e; have := hbvl k e; omega
      · split at hk
        · rename_i e; have := hsvl k e; omega
        · have := h.owns k hk; omega
  · exact (hlab _ _ h.wown (by simp)).trans h.wcell
  · exact h.chs.kept hnew fun k x e hl => by subst hl; exact hlab k _ e (by simp)
  · exact h.trow.kept fun k e => hlab k _ (h.town k e) (by simp)
  · refine ⟨fun t ht => ?_, ?_⟩
    · show _ = fptr _ (find (s.fs ++ [_]) t) ∧ _ = (find (s.fs ++ [_]) t).isSome
      rw [find_snoc]
      by_cases he : t = name
      · subst he
        rw [hf]
        simp only
        rw [if_pos (by simp [hne])]
        refine ⟨?_, Maps.has_put_same hDm hkey _⟩
        show _ = pd (if s.fs.length = s.fs.length then q else _)
        rw [if_pos rfl]
        exact Maps.atKey_put_same hDm hkey _ _
      · have hk := skey_ne he
        rw [Maps.atKey_put_other hk, Maps.has_put_other hk]
        obtain ⟨e1, e2⟩ := h.fis.at_ t ht
        rw [e1, e2]
        cases hft : find s.fs t with
        | none =>
          simp only
          rw [if_neg (fun e => he e.1.symm)]
          exact ⟨rfl, rfl⟩
        | some i =>
          simp only
          obtain ⟨f, hfi, _⟩ := find_some hft
          refine ⟨?_, by first | rfl | trivial⟩
          show pd (g.fb i) = pd (if i = s.fs.length then q else g.fb i)
          rw [if_neg (by have := (List.getElem?_eq_some_iff.1 hfi).1; omega)]
    · show _ = named (s.fs ++ [_])
      rw [named_snoc _ _ hne, Maps.size_put (h.fmap.tidy lawS), (h.fis.at_ name hns).2, hf, h.fis.size]
      rfl
  · exact ownsMap_kept h.hmap (hlab _ _ h.hown (by simp))
  · intro j x hx
    change (s.fs ++ [_])[j]? = some x at hx
    show FileR _ _ (if j = s.fs.length then q else g.fb j) j x
    by_cases hj : j = s.fs.length
    · subst hj
      rw [List.getElem?_append_right (Nat.le_refl _)] at hx
      simp at hx; subst hx
      rw [if_pos rfl]
      refine ⟨by rw [ho]; simp only; rw [if_pos trivial], bv, sv, _, (hlate q hq hql).trans hqc, hbv.kept fun k e => hlate k (hbl k e).1 (hbvl k e), fun k e => ?_, hsv.kept fun k e => hlate k (hsl k e).1 (hsvl k e), fun k e => ?_, Row.nil _ _ _, by simp [lab, blk]⟩
      · rw [ho]; simp only; rw [if_neg (hbl k e).2, if_pos e]
      · rw [ho]; simp only; rw [if_neg (hsl k e).2, if_neg (fun e2 => hbs k e2 e), if_pos e]
    · rw [if_neg hj]
      have hj2 : j < s.fs.length := by
        have := (List.getElem?_eq_some_iff.1 hx).1; simp at this; omega
      rw [List.getElem?_append_left hj2] at hx
      exact (h.files j x hx).kept hnew fun k y e hl => hlab k y e (by obtain ⟨_, rfl⟩ := hl; simp)
  · intro j x hx
    have hk := (h.hands j x hx).kept hnew (w' := w2) fun k y e hl => hlab k y e (by subst hl; simp)
    cases x with
    | closed => trivial
    | host st => exact hk
    | file st i m a =>
      obtain ⟨h1, fp, h2, h3⟩ := hk
      refine ⟨h1, fp, h2, fun e => ?_⟩
      rw [h3 e]
      have := (h.wf.hs st i m a (List.mem_of_getElem? hx)).1
      show Value.pointer (some ⟨g.fb i, 0, none⟩) = Value.pointer (some ⟨if i = s.fs.length then q else g.fb i, 0, none⟩)
      rw [if_neg (by omega)]
end Go.Proofs.YtpkhghjmelgpeaaGreat.Wk
