/- Close: the lookup with its word, and the data. -/
import Derived.Test.YtpkhghjmelgpeaaGreatW33
import Derived.Maps.OwnSet
import Derived.Handy
set_option linter.unusedVariables false
namespace Go.Proofs.YtpkhghjmelgpeaaGreat.Wk
open Go.ChangeShapes Go.WideShapes Go.ChangeAt Go.RowKit M Go.Maps Go.Proofs

theorem look_h2 {own : Own} {w : World} {p : Nat} {s : St} {g : Gh} (h : Rep own w p s g) (n : Int) (hn : (Lit.int .i64 n).wf = true) :
    (Instr.lookup 88 (.map (some g.hm)) (.int .i64 n) true).run Tryz.prog w = .ok (.tuple #[hval g n (hdOf s.hs n), .bool (Hd.there (hdOf s.hs n))]) w := by
  obtain ⟨v, ps, hr, hv⟩ := World.ownsMap.look_ok h.hmap lawI Tryz.underlying88 (zeroH w) (zd := .nil) (zp := []) rfl (key := .int .i64 n) (Maps.keyOf_int_mk Tryz.underlying3 hn)
  obtain ⟨ha, hb⟩ := h.his.at_ n hn
  rw [hr, show (Lit.int .i64 n) = ikey n from rfl, hb]
  rw [show (Lit.int .i64 n) = ikey n from rfl, ha] at hv
  cases hh : hdOf s.hs n with
  | closed => rw [hh] at hv; rw [Rh_nil hv]; rfl
  | file a b c d => rw [hh] at hv; rw [Rh_hd hv]; rfl
  | host a => rw [hh] at hv; rw [Rh_hd hv]; rfl

theorem wf_close {s : St} (h : Wf s) (n : Int) : Wf { s with hs := setAt s.hs n .closed } := by
  refine ⟨h.names, h.isName, h.now, h.len, h.uns, ?_, h.ords, h.apart, ⟨h.full.1, ?_⟩, h.clock⟩
  · intro b i m a hm
    rcases List.mem_or_eq_of_mem_set hm with h1 | h1
    · exact h.hs b i m a h1
    · cases h1
  · have h2 := h.full.2
    unfold live at h2 ⊢
    have : ∀ (l : List Hd) (k : Nat), ((l.set k .closed).filter Hd.live).length ≤ (l.filter Hd.live).length := by
      intro l
      induction l with
      | nil => intro k; simp
      | cons a r ih =>
        intro k
        cases k with
        | zero => rw [List.set_cons_zero, List.filter_cons_of_neg (by simp [Hd.live]), List.filter_cons]; split <;> simp
        | succ k =>
          have := ih k
          simp only [List.set_cons_succ, List.filter_cons]; split
          · simp only [List.length_cons]; omega
          · exact this
    exact Nat.le_trans (this _ _) h2
theorem live_close : ∀ (l : List Hd) (k : Nat) (x : Hd), l[k]? = some x → x.live = true → ((l.set k .closed).filter Hd.live).length + 1 = (l.filter Hd.live).length := by
  intro l
  induction l with
  | nil => intro k x h _; cases h
  | cons a r ih =>
    intro k x h hx
    cases k with
    | zero =>
      simp at h; subst h
      rw [List.set_cons_zero, List.filter_cons_of_neg (by simp [Hd.live]), List.filter_cons_of_pos hx]; rfl
    | succ k =>
      have := ih k x (by simpa using h) hx
      simp only [List.set_cons_succ, List.filter_cons]; split
      · simp only [List.length_cons]; omega
      · exact this
theorem close_rep {own : Own} {w w1 : World} {p : Nat} {s : St} {g : Gh} (h : Rep own w p s g) {n : Int} (hn : (Lit.int .i64 n).wf = true) (hl : (hdOf s.hs n).live = true)  (hm : w1.ownsMap Tryz.prog 3 Rh g.hm g.nh (g.Dh.del (ikey n))) (hg : w.grownBy w1 (some g.hm)) :
    Rep own (w1.setCell ⟨p, 8, none⟩ (.int .i64 ((live s.hs : Int) - 1))) p { s with hs := setAt s.hs n .closed } { g with Dh := g.Dh.del (ikey n) } ∧ Fr own w own (w1.setCell ⟨p, 8, none⟩ (.int .i64 ((live s.hs : Int) - 1))) noE := by
  obtain ⟨h1, h2⟩ := hdOf_get (h := hdOf s.hs n) rfl (fun e => by rw [e] at hl; cases hl)
  have hlt := (List.getElem?_eq_some_iff.1 h2).1
  have hlv : live (setAt s.hs n .closed) + 1 = live s.hs := live_close s.hs _ _ h2 hl
  have hpm : p ≠ g.hm := fun e => by have := h.hown; rw [← e, h.wown] at this; cases this
  have hoth : ∀ k, k < w.heap.size → k ≠ p → k ≠ g.hm → (w1.setCell ⟨p, 8, none⟩ (.int .i64 ((live s.hs : Int) - 1))).heap[k]? = w.heap[k]? := fun k hk h3 h4 => (blk_set_other _ _ _ _ _ h3).trans (hg.block k hk (fun e => h4 (Option.some.inj e)))
  have hlab : ∀ k l, own k = some l → l ≠ .w → l ≠ .hm → (w1.setCell ⟨p, 8, none⟩ (.int .i64 ((live s.hs : Int) - 1))).heap[k]? = w.heap[k]? := fun k l e h3 h4 => hoth k (h.owns k (by rw [e]; simp)) (fun e2 => by subst e2; rw [h.wown] at e; cases e; exact h3 rfl) (fun e2 => by subst e2; rw [h.hown] at e; cases e; exact h4 rfl)
  have hp := blk_set ((hg.block p (blk_lt h.wcell) (fun e => hpm (Option.some.inj e))).trans h.wcell) 8 (.int .i64 ((live s.hs : Int) - 1))
  have hsl : (setAt s.hs n .closed).length = s.hs.length := by unfold setAt; simp
  refine ⟨⟨fun k hk => by rw [size_set]; exact Nat.lt_of_lt_of_le (h.owns k hk) hg.size, h.wown, ?_, h.chs.kept (fun _ _ e => e) (fun k l e hl => by subst hl; exact hlab k _ e (by simp) (by simp)), h.trow.kept (fun k e => hlab k _ (h.town k e) (by simp) (by simp)), h.town, h.fown, ownsMap_kept h.fmap (hlab _ _ h.fown (by simp) (by simp)), h.fis, h.hown, ownsMap_kept hm (blk_set_other _ _ _ _ _ hpm.symm), ⟨fun m hm => ?_, ?_⟩, fun i f hf => (h.files i f hf).kept (fun _ _ e => e) (fun k l e hl => by obtain ⟨j, rfl⟩ := hl; exact hlab k _ e (by simp) (by simp)), fun m x hx => ?_, wf_close h.wf n⟩,
    ⟨hg.os, hg.tape, hg.output, by rw [size_set]; exact hg.size, fun _ _ => rfl, fun k h3 h4 _ => hoth k h3 (fun e => by subst e; rw [h.wown] at h4; cases h4) (fun e => by subst e; rw [h.hown] at h4; cases h4)⟩⟩
  · rw [hp]
    show some (Obj.cells #[g.cv, .int .i64 s.clock, .bool s.dead, g.tv, .map (some g.fm), .int .i64 s.writes, .map (some g.hm), .int .i64 s.hs.length, .int .i64 ((live s.hs : Int) - 1)] _ _) = some (Obj.cells #[g.cv, .int .i64 s.clock, .bool s.dead, g.tv, .map (some g.fm), .int .i64 s.writes, .map (some g.hm), .int .i64 (setAt s.hs n .closed).length, .int .i64 (live (setAt s.hs n .closed))] _ _)
    rw [hsl, ← hlv, show ((live (setAt s.hs n .closed) + 1 : Nat) : Int) - 1 = (live (setAt s.hs n .closed) : Int) from by omega]
  · show (g.Dh.del (ikey n)).atKey (ikey m) .nil = hptr (g.hb (m.toNat - 1)) (hdOf (setAt s.hs n .closed) m) ∧ Maps.has (g.Dh.del (ikey n)) (ikey m) = Hd.there (hdOf (setAt s.hs n .closed) m)
    rw [hdOf_set h1 hlt hm]
    by_cases e : m = n
    · subst e; rw [if_pos rfl]; exact ⟨atKey_del_same _, has_del_same⟩
    · rw [if_neg e]
      have hne : ikey m ≠ ikey n := fun e2 => e (by unfold ikey at e2; injection e2)
      rw [atKey_del_other hne, has_del_other hne]; exact h.his.at_ m hm
  · show Maps.size (g.Dh.del (ikey n)) ≤ (setAt s.hs n .closed).length
    rw [hsl]
    have := size_del (k := ikey n) (World.ownsMap.tidy h.hmap lawI)
    have := h.his.size
    omega
  · show HandR own _ g.fb (g.hb m) m x
    change (setAt s.hs n .closed)[m]? = some x at hx
    unfold setAt at hx
    rw [List.getElem?_set] at hx
    split at hx
    · cases hx; trivial
    · exact (h.hands m x hx).kept (fun _ _ e => e) (fun k l e hl => by subst hl; exact hlab k _ e (by simp) (by simp))
end Go.Proofs.YtpkhghjmelgpeaaGreat.Wk
