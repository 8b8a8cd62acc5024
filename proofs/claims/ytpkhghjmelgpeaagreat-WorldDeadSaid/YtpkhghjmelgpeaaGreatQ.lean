/- What changes of handles and of files make of a world that stands. -/
import Derived.Test.YtpkhghjmelgpeaaGreatW10
set_option linter.unusedVariables false
namespace Go.Proofs.YtpkhghjmelgpeaaGreat.Wk
open Go.ChangeShapes Go.WideShapes Go.ChangeAt Go.RowKit M

theorem hdOf_set {hs : List Hd} {n m : Int} {h : Hd} (hn : 1 ≤ n) (hl : n.toNat - 1 < hs.length) (hm : (Lit.int .i64 m).wf = true) : hdOf (setAt hs n h) m = if m = n then h else hdOf hs m := by
  unfold hdOf setAt
  by_cases h1 : 1 ≤ m
  · rw [if_pos h1, if_pos h1]
    by_cases he : m = n
    · subst he; rw [if_pos rfl, List.getD_eq_getElem?_getD, List.getElem?_set_self hl]; rfl
    · rw [if_neg he, List.getD_eq_getElem?_getD, List.getElem?_set_ne (by omega), ← List.getD_eq_getElem?_getD]
  · rw [if_neg h1, if_neg h1, if_neg (by omega)]
theorem live_set {hs : List Hd} {i : Nat} {h h' : Hd} (hi : hs[i]? = some h) (he : h'.live = h.live) : live (hs.set i h') = live hs := by
  unfold live
  induction hs generalizing i with
  | nil => simp at hi
  | cons x r ih =>
    cases i with
    | zero =>
      simp at hi; subst hi
      simp only [List.set_cons_zero, List.filter_cons, he]
      split <;> rfl
    | succ j =>
      simp at hi
      simp only [List.set_cons_succ, List.filter_cons]
      split
      · simp only [List.length_cons]; rw [ih hi]
      · exact ih hi
theorem Wf.hands {s : St} {hs' : List Hd} (h : Wf s) (h1 : ∀ b i m a, Hd.file b i m a ∈ hs' → i < s.fs.length ∧ 0 ≤ a ∧ a ≤ 4194304) (h2 : live hs' ≤ 32) : Wf { s with hs := hs' } :=
  ⟨h.names, h.isName, h.now, h.len, h.uns, h1, h.ords, h.apart, ⟨h.full.1, h2⟩, h.clock⟩

/-- A handle's place has changed. -/
theorem hand_rep {own : Own} {w : World} {p : Nat} {s : St} {g : Gh} (h : Rep own w p s g) {n : Int} {i a : Nat} {m : Int} (hh : hdOf s.hs n = .file false i m a) (a' : Nat) (ha : a' ≤ 4194304) :
    Rep own (w.setCell ⟨g.hb (n.toNat - 1), 3, none⟩ (.int .i64 a')) p { s with hs := setAt s.hs n (.file false i m a') } g ∧ Fr own w own (w.setCell ⟨g.hb (n.toNat - 1), 3, none⟩ (.int .i64 a')) noE := by
  obtain ⟨hn1, hget⟩ := hdOf_get hh (by simp)
  have hlt : n.toNat - 1 < s.hs.length := (List.getElem?_eq_some_iff.1 hget).1
  obtain ⟨ho, fp, hb, hfp⟩ := h.hands _ _ hget
  have hoth : ∀ k, k ≠ g.hb (n.toNat - 1) → (w.setCell ⟨g.hb (n.toNat - 1), 3, none⟩ (.int .i64 a')).heap[k]? = w.heap[k]? := fun k hk => blk_set_other _ _ _ _ _ hk
  have hlab : ∀ k l, own k = some l → l ≠ .h (n.toNat - 1) → (w.setCell ⟨g.hb (n.toNat - 1), 3, none⟩ (.int .i64 a')).heap[k]? = w.heap[k]? := fun k l e hl => hoth k (by intro e2; subst e2; rw [ho] at e; cases e; exact hl rfl)
  have hlen : (setAt s.hs n (.file false i m a')).length = s.hs.length := by simp [setAt]
  have hlive : live (setAt s.hs n (.file false i m a')) = live s.hs := live_set hget rfl
  refine ⟨⟨fun k hk => by rw [size_set]; exact h.owns k hk, h.wown, ?_, ?_, ?_, h.town, h.fown, ?_, h.fis, h.hown, ?_, ?_, ?_, ?_, ?_⟩, ⟨rfl, rfl, rfl, by rw [size_set]; exact Nat.le_refl _, fun _ _ => rfl, fun k _ h1 _ => hoth k (by intro e; subst e; rw [ho] at h1; cases h1)⟩⟩
  · show _ = some (Obj.cells #[_, _, _, _, _, _, _, .int .i64 (setAt s.hs n _).length, .int .i64 (live (setAt s.hs n _))] _ _)
    rw [hlen, hlive]; exact (hlab _ _ h.wown (by simp)).trans h.wcell
  · exact h.chs.kept (fun _ _ e => e) fun k l e hl => by subst hl; exact hlab k _ e (by simp)
  · exact h.trow.kept fun k hk => hlab k _ (h.town k hk) (by simp)
  · exact ownsMap_kept h.fmap (hlab _ _ h.fown (by simp))
  · exact ownsMap_kept h.hmap (hlab _ _ h.hown (by simp))
  · refine ⟨fun q hq => ?_, by show _ ≤ (setAt s.hs n _).length; rw [hlen]; exact h.his.size⟩
    show _ = hptr _ (hdOf (setAt s.hs n _) q) ∧ _ = Hd.there (hdOf (setAt s.hs n _) q)
    rw [hdOf_set hn1 hlt hq]
    have := h.his.at_ q hq
    split
    · rename_i e; subst e; rw [hh] at this; exact this
    · exact this
  · exact fun j f e => (h.files j f e).kept (fun _ _ e => e) fun k l e hl => hlab k l e (by obtain ⟨_, rfl⟩ := hl; simp)
  · intro j x hx
    change (s.hs.set (n.toNat - 1) (.file false i m a'))[j]? = some x at hx
    by_cases hj : j = n.toNat - 1
    · subst hj
      rw [List.getElem?_set_self hlt] at hx
      cases hx
      exact ⟨ho, fp, blk_set hb 3 _, hfp⟩
    · rw [List.getElem?_set_ne (by omega)] at hx
      exact (h.hands j x hx).kept (fun _ _ e => e) fun k l e hl => hlab k l e (by subst hl; simp; omega)
  · refine Wf.hands h.wf (fun b i' m' a'' hmem => ?_) (by rw [hlive]; exact h.wf.full.2)
    rcases List.mem_or_eq_of_mem_set hmem with h1 | h1
    · exact h.wf.hs b i' m' a'' h1
    · cases h1; exact ⟨(h.wf.hs false i m a (List.mem_of_getElem? hget)).1, Nat.zero_le _, ha⟩
end Go.Proofs.YtpkhghjmelgpeaaGreat.Wk
