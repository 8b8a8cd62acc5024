/- What next answers: the next choice; the world without it. -/
import Derived.Test.YtpkhghjmelgpeaaGreatP
set_option linter.unusedVariables false
namespace Go.Proofs.YtpkhghjmelgpeaaGreat.Wk
open Go.ChangeShapes Go.WideShapes Go.ChangeAt Go.RowKit M

theorem Wf.same {s s' : St} (h : Wf s) (hf : s'.fs = s.fs) (hh : s'.hs = s.hs) (hw : s'.writes = s.writes) (hc : s'.clock = s.clock) : Wf s' := by
  obtain ⟨h1, h2, h3, h4, h5, h6, h7, h8, h9, h10⟩ := h
  exact ⟨by rw [hf]; exact h1, by rw [hf]; exact h2, by rw [hf]; exact h3, by rw [hf]; exact h4, by rw [hf, hw]; exact h5, by rw [hf, hh]; exact h6, by rw [hf]; exact h7, by rw [hf]; exact h8, by rw [hf, hh]; exact h9, by rw [hc]; exact h10⟩

/-- Choices, trace and the world's own cells alone have changed. -/
theorem Rep.top {own own' : Own} {w w' : World} {p : Nat} {s s' : St} {g : Gh} {cv tv : Value} (h : Rep own w p s g) (ho : Owns own' w') (hm : More w own own') (hk : Kept own (fun l => l ≠ .w ∧ l ≠ .ch ∧ l ≠ .tr) w w')
    (hf : s'.fs = s.fs) (hh : s'.hs = s.hs) (hwf : Wf s')
    (hc : w'.heap[p]? = some (.cells #[cv, .int .i64 s'.clock, .bool s'.dead, tv, .map (some g.fm), .int .i64 s'.writes, .map (some g.hm), .int .i64 s'.hs.length, .int .i64 (live s'.hs)] 90 (0, 0)))
    (hch : Chs own' w' cv s'.ch) (htr : Row w' 82 6 tv s'.told.length (s'.told.flatMap ddcells)) (hto : lab own' tv .tr) : Rep own' w' p s' { g with cv := cv, tv := tv } where
  owns := ho
  wown := hm _ _ h.wown
  wcell := hc
  chs := hch
  trow := htr
  town := hto
  fown := hm _ _ h.fown
  fmap := ownsMap_kept h.fmap (hk _ _ h.fown (by simp))
  fis := by rw [hf]; exact h.fis
  hown := hm _ _ h.hown
  hmap := ownsMap_kept h.hmap (hk _ _ h.hown (by simp))
  his := by rw [hh]; exact h.his
  files := fun i f e => (h.files i f (by rw [← hf]; exact e)).kept hm fun k l e hl => hk k l e (by obtain ⟨j, rfl⟩ := hl; simp)
  hands := fun i f e => (h.hands i f (by rw [← hh]; exact e)).kept hm fun k l e hl => hk k l e (by subst hl; simp)
  wf := hwf

def Nexts (own : Own) (w : World) (p : Nat) (s : St) (g : Gh) (e : Ending) (w' : World) : Prop :=
  ∃ cv, e = .returned (.agg (chcells (s.ch.headD noCh)).toArray) ∧ Rep own w' p { s with ch := s.ch.tail } { g with cv := cv } ∧ Fr own w own w' noE

theorem chs_cells {own : Own} {w : World} {v : Value} {c : Ch} {r : List Ch} (h : Chs own w v (c :: r)) :
    ∃ gb o cur fz n, v = .slice (some ⟨gb, o, none⟩) (r.length + 1) n ∧ r.length + 1 ≤ n ∧ n ≤ maxLen ∧ own gb = some .ch ∧ w.heap[gb]? = some (.cells cur 63 fz) ∧ unfz cur fz ∧ o + 3 * (r.length + 1) ≤ cur.size ∧
      cur[o]? = some (.int .u8 c.kind) ∧ cur[o + 1]? = some (.int .i64 c.n) ∧ cur[o + 2]? = some (.string c.text) ∧ (cur.toList.drop (o + 3)).take (3 * r.length) = r.flatMap chcells := by
  obtain ⟨a, n, h1, h2, h3, h4⟩ := h
  obtain ⟨gb, o, cur, fz, rfl, k2, k3, k4, k5, k6⟩ := h4 (by simp)
  simp only [List.length_cons] at *
  have hd : ∀ j, j < 3 * (r.length + 1) → cur[o + j]? = ((c :: r).flatMap chcells)[j]? := fun j hj => by
    rw [← k6, List.getElem?_take, if_pos (by omega), List.getElem?_drop, Array.getElem?_toList]
  refine ⟨gb, o, cur, fz, n, h1, h2, h3, k2, k3, k4, k5, ?_, ?_, ?_, ?_⟩
  · have := hd 0 (by omega); simpa [chcells] using this
  · have := hd 1 (by omega); simpa [chcells] using this
  · have := hd 2 (by omega); simpa [chcells] using this
  · have h3' : ((cur.toList.drop o).take (3 * (r.length + 1))).drop 3 = (cur.toList.drop (o + 3)).take (3 * r.length) := by
      rw [List.drop_take, List.drop_drop]; congr 1
    rw [← h3', k6]; simp [chcells]

theorem size_set (w : World) (a : Addr) (v : Value) : (w.setCell a v).heap.size = w.heap.size := by simp [World.setCell]

set_option maxHeartbeats 1000000 in
theorem next_rep {own : Own} {w : World} {p : Nat} {s : St} {g : Gh} {k n : Int} {t : ByteArray} {r : List Ch} {gb o : Nat} {cur : Array Value} {fz : Nat × Nat} (h : Rep own w p s g) (hl : s.ch = ⟨k, n, t⟩ :: r) (hgo : own gb = some .ch) (hgb : w.heap[gb]? = some (.cells cur 63 fz))
    (hz : unfz cur fz) (hsz : o + 3 * (r.length + 1) ≤ cur.size) (hrest : (cur.toList.drop (o + 3)).take (3 * r.length) = r.flatMap chcells) (x y z : Value) (A : Option Addr) (m : Nat) (hA : 0 < r.length → A = some ⟨gb, o + 3, none⟩) (hm1 : r.length ≤ m) (hm2 : m ≤ maxLen) :
    Rep own ((((w.setCell ⟨gb, o, none⟩ x).setCell ⟨gb, o + 1, none⟩ y).setCell ⟨gb, o + 2, none⟩ z).setCell ⟨p, 0, none⟩ (.slice A r.length m)) p { s with ch := r } { g with cv := .slice A r.length m } ∧
    Fr own w own ((((w.setCell ⟨gb, o, none⟩ x).setCell ⟨gb, o + 1, none⟩ y).setCell ⟨gb, o + 2, none⟩ z).setCell ⟨p, 0, none⟩ (.slice A r.length m)) noE := by
  have hne : gb ≠ p := fun e => by subst e; rw [h.wown] at hgo; cases hgo
  have b1 := blk_set (blk_set (blk_set hgb o x) (o + 1) y) (o + 2) z
  have hoth : ∀ q, q ≠ gb → q ≠ p → ((((w.setCell ⟨gb, o, none⟩ x).setCell ⟨gb, o + 1, none⟩ y).setCell ⟨gb, o + 2, none⟩ z).setCell ⟨p, 0, none⟩ (.slice A r.length m)).heap[q]? = w.heap[q]? := fun q h1 h2 => by
    rw [blk_set_other _ _ _ _ _ h2, blk_set_other _ _ _ _ _ h1, blk_set_other _ _ _ _ _ h1, blk_set_other _ _ _ _ _ h1]
  have hgb' : ((((w.setCell ⟨gb, o, none⟩ x).setCell ⟨gb, o + 1, none⟩ y).setCell ⟨gb, o + 2, none⟩ z).setCell ⟨p, 0, none⟩ (.slice A r.length m)).heap[gb]? = some (.cells (((cur.setIfInBounds o x).setIfInBounds (o + 1) y).setIfInBounds (o + 2) z) 63 fz) := by
    rw [blk_set_other _ _ _ _ _ hne]; exact b1
  have hp' : ((((w.setCell ⟨gb, o, none⟩ x).setCell ⟨gb, o + 1, none⟩ y).setCell ⟨gb, o + 2, none⟩ z).setCell ⟨p, 0, none⟩ (.slice A r.length m)).heap[p]? = some (.cells #[.slice A r.length m, .int .i64 s.clock, .bool s.dead, g.tv, .map (some g.fm), .int .i64 s.writes, .map (some g.hm), .int .i64 s.hs.length, .int .i64 (live s.hs)] 90 (0, 0)) := by
    have : (((w.setCell ⟨gb, o, none⟩ x).setCell ⟨gb, o + 1, none⟩ y).setCell ⟨gb, o + 2, none⟩ z).heap[p]? = some (.cells #[g.cv, .int .i64 s.clock, .bool s.dead, g.tv, .map (some g.fm), .int .i64 s.writes, .map (some g.hm), .int .i64 s.hs.length, .int .i64 (live s.hs)] 90 (0, 0)) := by
      rw [blk_set_other _ _ _ _ _ hne.symm, blk_set_other _ _ _ _ _ hne.symm, blk_set_other _ _ _ _ _ hne.symm]; exact h.wcell
    exact blk_set this 0 _
  have hsize : ((((w.setCell ⟨gb, o, none⟩ x).setCell ⟨gb, o + 1, none⟩ y).setCell ⟨gb, o + 2, none⟩ z).setCell ⟨p, 0, none⟩ (.slice A r.length m)).heap.size = w.heap.size := by simp only [size_set]
  constructor
  · refine h.top (cv := .slice A r.length m) (tv := g.tv) (s' := { s with ch := r }) (fun q hq => by rw [hsize]; exact h.owns q hq) (fun _ _ e => e) (fun q l e hl' => hoth q (by intro e2; subst e2; rw [hgo] at e; cases e; simp at hl') (by intro e2; subst e2; rw [h.wown] at e; cases e; simp at hl')) rfl rfl (Wf.same h.wf rfl rfl rfl rfl) hp' ?_ ?_ h.town
    · refine ⟨A, m, rfl, hm1, hm2, fun h0 => ⟨gb, o + 3, _, fz, hA h0, hgo, hgb', ?_, ?_, ?_⟩⟩
      · simpa [unfz] using hz
      · simp; omega
      · have hd : (((cur.setIfInBounds o x).setIfInBounds (o + 1) y).setIfInBounds (o + 2) z).toList.drop (o + 3) = cur.toList.drop (o + 3) := by
          rw [Array.toList_setIfInBounds, Array.toList_setIfInBounds, Array.toList_setIfInBounds, List.drop_set_of_lt (by omega), List.drop_set_of_lt (by omega), List.drop_set_of_lt (by omega)]
        rw [hd]; exact hrest
    · refine h.trow.kept fun q hq => hoth q ?_ ?_
      · intro e; subst e; have := h.town q hq; rw [hgo] at this; cases this
      · intro e; subst e; have := h.town q hq; rw [h.wown] at this; cases this
  · exact ⟨rfl, rfl, rfl, by rw [hsize]; exact Nat.le_refl _, fun _ _ => rfl, fun q hq h1 _ => hoth q (by intro e; subst e; rw [hgo] at h1; cases h1) (by intro e; subst e; rw [h.wown] at h1; cases h1)⟩

set_option maxHeartbeats 2000000 in
set_option maxRecDepth 100000 in
theorem next_any (own : Own) (w : World) (p : Nat) (s : St) (g : Gh) (h : Rep own w p s g) :
    Calls Tryz.prog 88 #[.pointer (some ⟨p, 0, none⟩)] w (Nexts own w p s g) := by
  have HR := Lib.hid h
  have c0 : w.cell? ⟨p, 0, none⟩ = some g.cv := cell_blk h.wcell 0
  have f0 := frozen_blk h.wcell 0
  have hpl := blk_lt h.wcell
  cases hl : s.ch with
  | nil =>
    obtain ⟨a, n, hv, _⟩ := h.chs
    rw [hl] at hv
    rw [hv] at c0
    have HL := Lib.hid hl
    clear hv hl h
    go_enter Tryz.func88, Tryz.ntmps88
    go_wp2
    refine bodyPost_ret (v := .agg #[.int .u8 7, .int .i64 0, .string ⟨#[]⟩]) (by simp [results, Tryz.results88, go_sem]) rfl ?_
    have hB : Below w.heap.size w (w.alloc (.cells #[.int .u8 7, .int .i64 0, .string ⟨#[]⟩] 63)) := (Below.refl _ _).alloc (Nat.le_refl _) _
    refine ⟨g.cv, by rw [HL.out]; rfl, ?_, Fr.of_below hB (Nat.le_refl _) _⟩
    have := HR.out.below hB (Nat.le_refl _)
    have e1 : ({ s with ch := s.ch.tail } : St) = s := by cases s; simp at *; exact (HL.out ▸ rfl)
    rw [e1]; exact this
  | cons c r =>
    obtain ⟨k, n, t⟩ := c
    have hch := h.chs
    rw [hl] at hch
    obtain ⟨gb, o, cur, fz, m, hv, hm1, hm2, hgo, hgb, hz, hsz, k0, k1, k2, hrest⟩ := chs_cells hch
    rw [hv] at c0
    have d0 := (cell_blk hgb o).trans k0
    have d1 := (cell_blk hgb (o + 1)).trans k1
    have d2 := (cell_blk hgb (o + 2)).trans k2
    have e0 := unfz_frozen hgb hz o (by omega)
    have e1 := unfz_frozen hgb hz (o + 1) (by omega)
    have e2 := unfz_frozen hgb hz (o + 2) (by omega)
    have hgl := blk_lt hgb
    have hne : gb ≠ p := fun e => by subst e; rw [h.wown] at hgo; cases hgo
    have HL := Lib.hid hl
    have HV := Lib.hid hv
    have HB := Lib.hid hgb
    have HK := Lib.hid hrest
    clear hl hv hch k0 k1 k2 hgb hrest h
    go_enter Tryz.func88, Tryz.ntmps88
    go_wp2
    all_goals
      refine bodyPost_ret (v := .agg #[.int .u8 k, .int .i64 n, .string t]) (by simp [results, Tryz.results88, go_sem]) rfl ?_
    · obtain rfl : m = 1 := by assumption
      have hr0 : r.length = 0 := by omega
      obtain ⟨q1, q2⟩ := next_rep HR.out HL.out hgo HB.out hz hsz HK.out (.int .u8 0) (.int .i64 0) (.string ⟨#[]⟩) (some ⟨gb, o, none⟩) 0 (by omega) (by omega) (by omega)
      have hB := (((Below.refl _ _).alloc (Nat.le_refl _) (.cells #[.int .u8 k, .int .i64 n, .string t] 63)).alloc (by simp) (.cells #[.int .u8 k, .int .i64 n, .string t] 63) : Below _ ((((w.setCell ⟨gb, o, none⟩ (.int .u8 0)).setCell ⟨gb, o + 1, none⟩ (.int .i64 0)).setCell ⟨gb, o + 2, none⟩ (.string ⟨#[]⟩)).setCell ⟨p, 0, none⟩ (.slice (some ⟨gb, o, none⟩) r.length 0)) _)
      refine ⟨.slice (some ⟨gb, o, none⟩) r.length 0, by rw [HL.out]; rfl, ?_, q2.trans (Fr.of_below hB (Nat.le_refl _) _)⟩
      rw [show s.ch.tail = r by rw [HL.out]; rfl]; exact q1.below hB (Nat.le_refl _)
    · have hm : ¬ m = 1 := by assumption
      obtain ⟨q1, q2⟩ := next_rep HR.out HL.out hgo HB.out hz hsz HK.out (.int .u8 0) (.int .i64 0) (.string ⟨#[]⟩) (some ⟨gb, o + 3, none⟩) (m - 1) (fun _ => rfl) (by omega) (by unfold maxLen at *; omega)
      have hB := (((Below.refl _ _).alloc (Nat.le_refl _) (.cells #[.int .u8 k, .int .i64 n, .string t] 63)).alloc (by simp) (.cells #[.int .u8 k, .int .i64 n, .string t] 63) : Below _ ((((w.setCell ⟨gb, o, none⟩ (.int .u8 0)).setCell ⟨gb, o + 1, none⟩ (.int .i64 0)).setCell ⟨gb, o + 2, none⟩ (.string ⟨#[]⟩)).setCell ⟨p, 0, none⟩ (.slice (some ⟨gb, o + 3, none⟩) r.length (m - 1))) _)
      refine ⟨.slice (some ⟨gb, o + 3, none⟩) r.length (m - 1), by rw [HL.out]; rfl, ?_, q2.trans (Fr.of_below hB (Nat.le_refl _) _)⟩
      rw [show s.ch.tail = r by rw [HL.out]; rfl]; exact q1.below hB (Nat.le_refl _)
end Go.Proofs.YtpkhghjmelgpeaaGreat.Wk
