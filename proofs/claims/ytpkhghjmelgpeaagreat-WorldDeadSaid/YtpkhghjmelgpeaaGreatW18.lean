/- issue: a handle gets its number. -/
import Derived.Test.YtpkhghjmelgpeaaGreatW17
set_option linter.unusedVariables false
namespace Go.Proofs.YtpkhghjmelgpeaaGreat.Wk
open Go.ChangeShapes Go.WideShapes Go.ChangeAt Go.RowKit M

theorem hdOf_snoc (hs : List Hd) (h : Hd) (n : Int) : hdOf (hs ++ [h]) n = if n = hs.length + 1 then h else hdOf hs n := by
  unfold hdOf
  by_cases h1 : 1 ≤ n
  · rw [if_pos h1, if_pos h1, List.getD_eq_getElem?_getD, List.getD_eq_getElem?_getD]
    by_cases h2 : n = hs.length + 1
    · rw [if_pos h2, List.getElem?_append_right (by omega)]
      have : n.toNat - 1 - hs.length = 0 := by omega
      rw [this]; rfl
    · rw [if_neg h2]
      by_cases h3 : n.toNat - 1 < hs.length
      · rw [List.getElem?_append_left h3]
      · rw [List.getElem?_eq_none (by simp; omega), List.getElem?_eq_none (by omega)]
  · rw [if_neg h1, if_neg h1, if_neg (by omega)]
theorem live_snoc (hs : List Hd) (h : Hd) (hl : h.live = true) : live (hs ++ [h]) = live hs + 1 := by unfold live; simp [List.filter_append, hl]
theorem ikey_ne {a b : Int} (h : a ≠ b) : ikey a ≠ ikey b := by unfold ikey; intro e; cases e; exact h rfl

set_option maxHeartbeats 2000000 in
theorem issue_fin {own : Own} {w0 w X w' : World} {p : Nat} {s : St} {g : Gh} (h : Rep own w p s g) {B T : Nat} {hv : Hd} (h0 : Fr own w0 own w noE) (hB0 : w0.heap.size ≤ B) (hBn : own B = none) (hBl : B < w.heap.size) (hT : ∀ b, hptr b hv = hd T b) (hl : hv.live = true) (hth : Hd.there hv = true)
    (hwf : ∀ b i m a, hv = .file b i m a → i < s.fs.length ∧ a ≤ 4194304) (hH : ∀ (own' : Own) (W : World), own' B = some (.h s.hs.length) → W.heap[B]? = w.heap[B]? → HandR own' W g.fb B s.hs.length hv) (hlive : live s.hs < 32)
    (hkey : (Lit.int .i64 ((s.hs.length : Int) + 1)).wf = true)
    (hX : X = ((w.setCell ⟨p, 7, none⟩ (.int .i64 ((s.hs.length : Int) + 1))).setCell ⟨p, 8, none⟩ (.int .i64 ((live s.hs : Int) + 1))).drew)
    {nh' : Nat} (hm : w'.ownsMap Tryz.prog 3 Rh g.hm nh' (g.Dh.put (ikey (s.hs.length + 1)) (hd T B))) (hg : X.grownBy w' (some g.hm)) :
    Rep (own.new B (.h s.hs.length)) w' p { s with hs := s.hs ++ [hv] } { g with Dh := g.Dh.put (ikey (s.hs.length + 1)) (hd T B), nh := nh', hb := fun k => if k = s.hs.length then B else g.hb k } ∧ Fr own w0 (own.new B (.h s.hs.length)) w' noE := by
  have hXs : X.heap.size = w.heap.size := by rw [hX]; show (World.setCell _ _ _).heap.size = _; rw [size_set, size_set]
  have hXo : ∀ k, k ≠ p → X.heap[k]? = w.heap[k]? := fun k hk => by rw [hX]; show (World.setCell _ _ _).heap[k]? = _; rw [blk_set_other _ _ _ _ _ hk, blk_set_other _ _ _ _ _ hk]
  have hXp : X.heap[p]? = some (.cells #[g.cv, .int .i64 s.clock, .bool s.dead, g.tv, .map (some g.fm), .int .i64 s.writes, .map (some g.hm), .int .i64 ((s.hs.length : Int) + 1), .int .i64 ((live s.hs : Int) + 1)] 90 (0, 0)) := by
    rw [hX]; exact blk_set (blk_set h.wcell 7 _) 8 _
  have hnew : ∀ k l, own k = some l → own.new B (.h s.hs.length) k = some l := fun k l e => by unfold Own.new; rw [if_neg (by intro e2; subst e2; rw [hBn] at e; cases e)]; exact e
  have hother : ∀ k, k < w.heap.size → k ≠ p → own k ≠ some .hm → w'.heap[k]? = w.heap[k]? := fun k hk h1 h2 => (hg.block k (by omega) (by intro e; cases e; exact h2 h.hown)).trans (hXo k h1)
  have hlab : ∀ k l, own k = some l → l ≠ .w → l ≠ .hm → w'.heap[k]? = w.heap[k]? := fun k l e h1 h2 => hother k (h.owns k (by rw [e]; simp)) (by intro e2; subst e2; rw [h.wown] at e; cases e; exact h1 rfl) (by rw [e]; intro e2; cases e2; exact h2 rfl)
  have hpm : p ≠ g.hm := fun e => by have := h.wown; rw [e, h.hown] at this; cases this
  have hpl := blk_lt h.wcell
  have hBp : B ≠ p := fun e => by subst e; rw [h.wown] at hBn; cases hBn
  have hBh : B ≠ g.hm := fun e => by subst e; rw [h.hown] at hBn; cases hBn
  have hs' := hg.size
  have hwB : w'.heap[B]? = w.heap[B]? := hother B hBl hBp (by rw [hBn]; simp)
  constructor
  · refine ⟨?_, hnew _ _ h.wown, ?_, ?_, ?_, fun k e => hnew _ _ (h.town k e), hnew _ _ h.fown, ?_, h.fis, hnew _ _ h.hown, hm, ?_, ?_, ?_, ?_⟩
    · intro k hk
      unfold Own.new at hk
      split at hk
      · rename_i e; subst e; omega
      · have := h.owns k hk; omega
    · show _ = some (Obj.cells #[_, _, _, _, _, _, _, .int .i64 ((s.hs ++ [hv]).length : Nat), .int .i64 (live (s.hs ++ [hv]) : Nat)] _ _)
      rw [live_snoc _ _ hl, List.length_append, List.length_singleton]
      exact (hg.block p (by omega) (by intro e; cases e; exact hpm rfl)).trans hXp
    · exact h.chs.kept hnew fun k l e hl => by subst hl; exact hlab k _ e (by simp) (by simp)
    · exact h.trow.kept fun k e => hlab k _ (h.town k e) (by simp) (by simp)
    · exact ownsMap_kept h.fmap (hlab _ _ h.fown (by simp) (by simp))
    · refine ⟨fun n hn => ?_, by
        rw [Maps.size_put (h.hmap.tidy lawI)]
        have := h.his.size
        show _ ≤ (s.hs ++ [hv]).length
        rw [List.length_append, List.length_singleton]
        split <;> omega⟩
      show _ = hptr (if n.toNat - 1 = s.hs.length then B else g.hb (n.toNat - 1)) (hdOf (s.hs ++ [hv]) n) ∧ _ = Hd.there (hdOf (s.hs ++ [hv]) n)
      rw [hdOf_snoc]
      have hD := h.hmap.isMap
      by_cases he : n = s.hs.length + 1
      · subst he
        have hk := lawI.key (Maps.keyOf_int_mk Tryz.underlying3 hkey)
        rw [if_pos rfl, if_pos (by omega), hT]
        exact ⟨Maps.atKey_put_same hD hk _ _, by rw [hth]; exact Maps.has_put_same hD hk _⟩
      · rw [if_neg he]
        have hne := ikey_ne he
        refine ⟨?_, ?_⟩
        · rw [Maps.atKey_put_other hne, (h.his.at_ n hn).1]
          by_cases h2 : n.toNat - 1 = s.hs.length
          · rw [if_pos h2]
            have : hdOf s.hs n = .closed := by
              unfold hdOf
              split
              · rw [List.getD_eq_getElem?_getD, List.getElem?_eq_none (by omega)]; rfl
              · rfl
            rw [this]; rfl
          · rw [if_neg h2]
        · rw [Maps.has_put_other hne]; exact (h.his.at_ n hn).2
    · exact fun j f e => (h.files j f e).kept hnew fun k l e hl => hlab k l e (by obtain ⟨_, rfl⟩ := hl; simp) (by obtain ⟨_, rfl⟩ := hl; simp)
    · intro j x hx
      change (s.hs ++ [hv])[j]? = some x at hx
      show HandR _ _ _ (if j = s.hs.length then B else g.hb j) j x
      by_cases hj : j = s.hs.length
      · subst hj
        rw [List.getElem?_append_right (Nat.le_refl _)] at hx
        simp at hx; subst hx
        rw [if_pos rfl]
        exact hH _ _ (by unfold Own.new; rw [if_pos rfl]) hwB
      · rw [if_neg hj]
        have hj2 : j < s.hs.length := by
          have := (List.getElem?_eq_some_iff.1 hx).1; simp at this; omega
        rw [List.getElem?_append_left hj2] at hx
        exact (h.hands j x hx).kept hnew fun k l e hl => hlab k l e (by subst hl; simp) (by subst hl; simp)
    · refine Wf.hands h.wf (fun b i m a hmem => ?_) (by rw [live_snoc _ _ hl]; omega)
      rcases List.mem_append.1 hmem with h1 | h1
      · exact h.wf.hs b i m a h1
      · simp at h1; have := hwf b i m a h1.symm; exact ⟨this.1, Nat.zero_le _, this.2⟩
  · refine ⟨(hg.os.trans (by rw [hX]; rfl)).trans h0.os, (hg.tape.trans (by rw [hX]; rfl)).trans h0.tape, (hg.output.trans (by rw [hX]; rfl)).trans h0.output, by have := h0.size; omega, ?_, ?_⟩
    · intro k hk
      unfold Own.new; rw [if_neg (by omega)]
    · exact fun k hk h1 h2 => (hother k (by have := h0.size; omega) (by intro e; subst e; rw [h.wown] at h1; cases h1) (by rw [h1]; simp)).trans (h0.kept k hk h1 h2)

def Issued (w0 : World) (own : Own) (p : Nat) (s : St) (hv : Hd) (e : Ending) (w' : World) : Prop :=
  ∃ own' g', e = .returned (.int .i64 ((s.hs.length : Int) + 1)) ∧ Rep own' w' p { s with hs := s.hs ++ [hv] } g' ∧ Fr own w0 own' w' noE

set_option maxHeartbeats 4000000 in
set_option maxRecDepth 100000 in
theorem issue_any (own : Own) (w0 w : World) (p : Nat) (s : St) (g : Gh) (h : Rep own w p s g) (B T : Nat) (hv : Hd) (h0 : Fr own w0 own w noE) (hB0 : w0.heap.size ≤ B) (hBl : B < w.heap.size) (hT : ∀ b, hptr b hv = hd T b) (hl : hv.live = true) (hth : Hd.there hv = true)
    (hwf : ∀ b i m a, hv = .file b i m a → i < s.fs.length ∧ a ≤ 4194304) (hH : ∀ (own' : Own) (W : World), own' B = some (.h s.hs.length) → W.heap[B]? = w.heap[B]? → HandR own' W g.fb B s.hs.length hv) (hlive : live s.hs < 32) (hlen : s.hs.length ≤ 1099511627776) (hown0 : own B = none) :
    Calls Tryz.prog 92 #[.pointer (some ⟨p, 0, none⟩), .iface T (.pointer (some ⟨B, 0, none⟩))] w (Issued w0 own p s hv) := by
  have hkey : (Lit.int .i64 ((s.hs.length : Int) + 1)).wf = true := WalkArith.wf_i64 (by omega)
  obtain ⟨X, hX⟩ : ∃ X, X = ((w.setCell ⟨p, 7, none⟩ (.int .i64 ((s.hs.length : Int) + 1))).setCell ⟨p, 8, none⟩ (.int .i64 ((live s.hs : Int) + 1))).drew := ⟨_, rfl⟩
  have hXh : X.heap[g.hm]? = w.heap[g.hm]? := by
    have hpm : g.hm ≠ p := fun e => by have := h.hown; rw [e, h.wown] at this; cases this
    rw [hX]; show (World.setCell _ _ _).heap[g.hm]? = _; rw [blk_set_other _ _ _ _ _ hpm, blk_set_other _ _ _ _ _ hpm]
  obtain ⟨w', hr, hm, hg⟩ := (ownsMap_tight (ownsMap_kept h.hmap hXh)).update lawI Tryz.underlying88 (by have := h.his.size; unfold maxLen; omega) (key := .int .i64 ((s.hs.length : Int) + 1)) (val := .iface T (.pointer (some ⟨B, 0, none⟩))) (Maps.keyOf_int_mk Tryz.underlying3 hkey) (d := hd T B) (ps := []) rfl
  obtain ⟨f1, f2⟩ := issue_fin h h0 hB0 hown0 hBl hT hl hth hwf hH hlive hkey hX hm hg
  have c6 : w.cell? ⟨p, 6, none⟩ = some (.map (some g.hm)) := cell_blk h.wcell 6
  have c7 : w.cell? ⟨p, 7, none⟩ = some (.int .i64 s.hs.length) := cell_blk h.wcell 7
  have c8 : w.cell? ⟨p, 8, none⟩ = some (.int .i64 (live s.hs)) := cell_blk h.wcell 8
  have cf := frozen_blk h.wcell
  have d7 : w'.cell? ⟨p, 7, none⟩ = some (.int .i64 ((s.hs.length : Int) + 1)) := by
    have := cell_blk f1.wcell 7
    rw [this]; simp
  rw [hX] at hr
  have HR := Lib.hid hr
  have F1 := Lib.hid f1
  have F2 := Lib.hid f2
  clear h hX hXh hm hg hr f1 f2 hH hT hwf
  go_enter Tryz.func92, Tryz.ntmps92
  go_wp2
  have HR' := HR.out
  go_region
  all_goals (clear HR'; try go_wp2)
  all_goals
    go_ret
    exact ⟨_, _, rfl, F1.out, F2.out⟩
end Go.Proofs.YtpkhghjmelgpeaaGreat.Wk
