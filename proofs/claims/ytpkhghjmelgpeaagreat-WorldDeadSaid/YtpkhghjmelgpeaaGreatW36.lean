/- Rename. -/
import Derived.Test.YtpkhghjmelgpeaaGreatW35
import Derived.Test.YtpkhghjmelgpeaaGreatM4
set_option linter.unusedVariables false
namespace Go.Proofs.YtpkhghjmelgpeaaGreat.Wk
open Go.ChangeShapes Go.WideShapes Go.ChangeAt Go.RowKit M Go.Maps Go.Proofs

/-- The names alone have changed, and the map by name. -/
theorem names_rep {own : Own} {w w1 : World} {p : Nat} {s : St} {g : Gh} (h : Rep own w p s g) {fs' : List Fs} {Df' : DataW Unit} {nf' : Nat}
    (hfs : ∀ (j : Nat) (f : Fs), fs'[j]? = some f → ∃ x : Fs, s.fs[j]? = some x ∧ f.now = x.now ∧ f.base = x.base ∧ f.uns = x.uns) (hwf : Wf { s with fs := fs' }) (hF : FMap Df' fs' g.fb)
    (hm : w1.ownsMap Tryz.prog 9 Rp g.fm nf' Df') (hg : w.grownBy w1 (some g.fm)) :
    Rep own w1 p { s with fs := fs' } { g with Df := Df', nf := nf' } ∧ Fr own w own w1 noE := by
  have hoth : ∀ k, k < w.heap.size → k ≠ g.fm → w1.heap[k]? = w.heap[k]? := fun k hk h4 => hg.block k hk (fun e => h4 (Option.some.inj e))
  have hlab : ∀ k l, own k = some l → l ≠ .fm → w1.heap[k]? = w.heap[k]? := fun k l e h4 => hoth k (h.owns k (by rw [e]; simp)) (fun e2 => by subst e2; rw [h.fown] at e; cases e; exact h4 rfl)
  refine ⟨⟨fun k hk => Nat.lt_of_lt_of_le (h.owns k hk) hg.size, h.wown, (hlab _ _ h.wown (by simp)).trans h.wcell, h.chs.kept (fun _ _ e => e) (fun k l e hl => by subst hl; exact hlab k _ e (by simp)), h.trow.kept (fun k e => hlab k _ (h.town k e) (by simp)), h.town, h.fown, hm, hF, h.hown, ownsMap_kept h.hmap (hlab _ _ h.hown (by simp)), h.his, fun i f hf => ?_, fun m x hx => (h.hands m x hx).kept (fun _ _ e => e) (fun k l e hl => by subst hl; exact hlab k _ e (by simp)), hwf⟩,
    ⟨hg.os, hg.tape, hg.output, hg.size, fun _ _ => rfl, fun k h3 h4 _ => hoth k h3 (fun e => by subst e; rw [h.fown] at h4; cases h4)⟩⟩
  obtain ⟨x, hx, e1, e2, e3⟩ := hfs i f hf
  have hk : FileR own w1 (g.fb i) i x := (h.files i x hx).kept (fun _ _ e => e) (fun k l e hl => by obtain ⟨j, rfl⟩ := hl; exact hlab k _ e (by simp))
  obtain ⟨k1, k2⟩ := hk
  exact ⟨k1, by rw [e1, e2, e3]; exact k2⟩
theorem delF_any {own : Own} {w : World} {p : Nat} {s : St} {g : Gh} (h : Rep own w p s g) (a : ByteArray) (ha : a.size ≤ maxLen) :
    ∃ w1, (Builtin.delete_ #[87, 9] 0 #[.map (some g.fm), .string a]).run Tryz.prog w = .ok (.tuple #[]) w1 ∧ w1.ownsMap Tryz.prog 9 Rp g.fm g.nf (g.Df.del (skey a)) ∧ w.grownBy w1 (some g.fm) := by
  obtain ⟨w1, h1, h2, h3⟩ := World.ownsMap.drop h.fmap lawS Tryz.underlying87 (key := .string a) (Go.WideMaps.keyOf_string_mk Tryz.underlying9 ha) 0
  exact ⟨w1, h1, h2, h3.grown⟩
theorem size_del_lt {own : Own} {w : World} {p : Nat} {s : St} {g : Gh} (h : Rep own w p s g) (a : ByteArray) : Maps.size (g.Df.del (skey a)) ≤ 64 := by
  have h1 := Maps.size_del (k := skey a) (h.fmap.tidy lawS)
  have h2 := h.fis.size
  have h3 := h.wf.full.1
  omega
theorem rename_fmap {own : Own} {w : World} {p : Nat} {s : St} {g : Gh} (h : Rep own w p s g) {a b : ByteArray} {i : Nat} (ha : find s.fs a = some i) (hb : isName b = true) (has : a.size ≤ maxLen) (hbs : b.size ≤ maxLen) (hne : a ≠ b) : FMap ((g.Df.del (skey a)).put (skey b) (pd (g.fb i))) (rnm s.fs b i) g.fb := by
  obtain ⟨h1, h2, h3, h4⟩ := rnm_all h.wf ha hb hne
  have hT := h.fmap.tidy lawS
  have hM := (hT.del (skey a)).isMap
  have hkb : WideAt.IsKeyLit (skey b) := lawS.key (Go.WideMaps.keyOf_string_mk Tryz.underlying9 hbs)
  refine ⟨fun t ht => ?_, ?_⟩
  · rw [h2 t]
    by_cases e1 : t = b
    · subst e1; rw [if_pos rfl]
      exact ⟨Maps.atKey_put_same hM hkb _ _, Maps.has_put_same hM hkb _⟩
    · rw [if_neg e1]
      have k1 := skey_ne e1
      rw [Maps.atKey_put_other k1, Maps.has_put_other k1]
      by_cases e2 : t = a
      · subst e2; rw [if_pos rfl]; exact ⟨Maps.atKey_del_same _, Maps.has_del_same⟩
      · rw [if_neg e2]
        have k2 := skey_ne e2
        rw [Maps.atKey_del_other k2, Maps.has_del_other k2]
        exact h.fis.at_ t ht
  · rw [Maps.size_put (hT.del _), Maps.has_del_other (skey_ne (fun e => hne e.symm)), (h.fis.at_ b hbs).2]
    have h5 := Maps.size_del (k := skey a) hT
    rw [(h.fis.at_ a has).2, ha, h.fis.size] at h5
    simp only [Option.isSome_some, if_true] at h5
    split
    · rename_i hs; rw [if_pos hs] at h3; omega
    · rename_i hs; rw [if_neg hs] at h3; omega
theorem same_fmap {own : Own} {w : World} {p : Nat} {s : St} {g : Gh} (h : Rep own w p s g) {a : ByteArray} {i : Nat} (ha : find s.fs a = some i) (has : a.size ≤ maxLen) : FMap ((g.Df.del (skey a)).put (skey a) (pd (g.fb i))) s.fs g.fb := by
  have hT := h.fmap.tidy lawS
  have hM := (hT.del (skey a)).isMap
  have hkb : WideAt.IsKeyLit (skey a) := lawS.key (Go.WideMaps.keyOf_string_mk Tryz.underlying9 has)
  refine ⟨fun t ht => ?_, ?_⟩
  · by_cases e1 : t = a
    · subst e1; rw [ha]
      exact ⟨Maps.atKey_put_same hM hkb _ _, Maps.has_put_same hM hkb _⟩
    · have k1 := skey_ne e1
      rw [Maps.atKey_put_other k1, Maps.has_put_other k1, Maps.atKey_del_other k1, Maps.has_del_other k1]
      exact h.fis.at_ t ht
  · rw [Maps.size_put (hT.del _), Maps.has_del_same]
    have h5 := Maps.size_del (k := skey a) hT
    rw [(h.fis.at_ a has).2, ha, h.fis.size] at h5
    simp only [Option.isSome_some, if_true] at h5
    rw [if_neg (by simp)]; omega
/-- delete, then store: what both make of the world. -/
theorem rename_rep {own : Own} {w : World} {p : Nat} {s : St} {g : Gh} (h : Rep own w p s g) {a b : ByteArray} {i : Nat} (ha : find s.fs a = some i) (hb : isName b = true) (has : a.size ≤ maxLen) (hbs : b.size ≤ maxLen) :
    ∃ w1 w2 g', (Builtin.delete_ #[87, 9] 0 #[.map (some g.fm), .string a]).run Tryz.prog w = .ok (.tuple #[]) w1 ∧ w.grownBy w1 (some g.fm) ∧
      (Instr.mapUpdate 87 (.map (some g.fm)) (.string b) (.pointer (some ⟨g.fb i, 0, none⟩))).run Tryz.prog w1.drew = .ok () w2 ∧
      Rep own w2 p { s with fs := if a = b then s.fs else rnm s.fs b i } g' ∧ Fr own w own w2 noE := by
  obtain ⟨w1, h1, h2, h3⟩ := delF_any h a has
  have h2d : w1.drew.ownsMap Tryz.prog 9 Rp g.fm g.nf (g.Df.del (skey a)) := ownsMap_kept h2 rfl
  obtain ⟨w2, k1, k2, k3⟩ := (ownsMap_tight h2d).update lawS Tryz.underlying87 (by have := size_del_lt h a; unfold maxLen; omega) (key := .string b) (val := .pointer (some ⟨g.fb i, 0, none⟩)) (Go.WideMaps.keyOf_string_mk Tryz.underlying9 hbs) (d := pd (g.fb i)) (ps := []) rfl
  have hg : w.grownBy w2 (some g.fm) := ⟨k3.os.trans h3.os, k3.tape.trans h3.tape, k3.output.trans h3.output, Nat.le_trans h3.size k3.size, fun q hq hne => (k3.block q (Nat.lt_of_lt_of_le hq h3.size) hne).trans (h3.block q hq hne)⟩
  by_cases hab : a = b
  · subst hab
    obtain ⟨z1, z2⟩ := names_rep h (fs' := s.fs) (fun j f hj => ⟨f, hj, rfl, rfl, rfl⟩) h.wf (same_fmap h ha has) k2 hg
    exact ⟨w1, w2, _, h1, h3, k1, by rw [if_pos rfl]; exact z1, z2⟩
  · obtain ⟨f1, f2, f3, f4⟩ := rnm_all h.wf ha hb hab
    obtain ⟨z1, z2⟩ := names_rep h (fs' := rnm s.fs b i) f4 f1 (rename_fmap h ha hb has hbs hab) k2 hg
    exact ⟨w1, w2, _, h1, h3, k1, by rw [if_neg hab]; exact z1, z2⟩
theorem actRename_all {a b : ByteArray} {s : St} {c : Ch} {d : Dd} {i : Nat} (h1 : isName a = true) (h2 : isName b = true) (h : find s.fs a = some i) : actRename a b s c d = ({ s with fs := if a = b then s.fs else rnm s.fs b i }, { d with err := 0 }) := by
  by_cases hab : a = b
  · rw [if_pos hab]; unfold actRename; rw [if_neg (by simp [h1, h2]), h]; simp only; rw [if_pos hab]
  · rw [if_neg hab]; exact actRename_eq h1 h2 h hab

set_option maxHeartbeats 8000000 in
set_option maxRecDepth 100000 in
theorem Rename1_does (own : Own) (w : World) (p : Nat) (s : St) (a b : ByteArray) (ab bb wb : Nat) (hab : w.heap[ab]? = some (.cells #[.string a] 9 (0, 0))) (hao : own ab = none) (hbb : w.heap[bb]? = some (.cells #[.string b] 9 (0, 0))) (hbo : own bb = none)
    (hwb : w.heap[wb]? = some (.cells #[.pointer (some ⟨p, 0, none⟩)] 29 (0, 0))) (hwo : own wb = none) (has : a.size ≤ maxLen) (hbs : b.size ≤ maxLen) :
    Does own w p 111 #[.pointer (some ⟨ab, 0, none⟩), .pointer (some ⟨bb, 0, none⟩), .pointer (some ⟨wb, 0, none⟩)] s ⟨7, 0, a, b, 0, 0⟩ (actRename a b) := by
  intro own1 w1 g1 db k n0 t hc hR hdb hbox hF
  have hab1 := (hF.kept _ (blk_lt hab) hao (fun e => e)).trans hab
  have hbb1 := (hF.kept _ (blk_lt hbb) hbo (fun e => e)).trans hbb
  have hwb1 := (hF.kept _ (blk_lt hwb) hwo (fun e => e)).trans hwb
  have hal1 := blk_lt hab1
  have hbl1 := blk_lt hbb1
  have hwl1 := blk_lt hwb1
  have hdl1 := blk_lt hbox
  have hbo1 : own1 bb = none := (hF.old _ (blk_lt hbb)).trans hbo
  have hwo1 : own1 wb = none := (hF.old _ (blk_lt hwb)).trans hwo
  obtain ⟨X, hX⟩ : ∃ X, X = w1.alloc (.cells #[.int .u8 k, .int .i64 n0, .string t] 63) := ⟨_, rfl⟩
  have hXk : ∀ q, q < w1.heap.size → X.heap[q]? = w1.heap[q]? := fun q hq => by rw [hX]; exact Below.heap_alloc _ _ _ hq
  have hRX : Rep own1 X p { s with ch := s.ch.tail } g1 ∧ Fr own1 w1 own1 X noE := by rw [hX]; exact alloc_rep hR _
  obtain ⟨hRX, hFX⟩ := hRX
  have va := cell_blk hab1 0
  have ca := cell_blk ((hXk ab hal1).trans hab1) 0
  have cb := cell_blk ((hXk bb hbl1).trans hbb1) 0
  have cw := cell_blk ((hXk wb hwl1).trans hwb1) 0
  have hbx := (hXk db hdl1).trans hbox
  have hRXd := drew_rep hRX
  have hlook := look_f hRXd a has
  have c4 : X.cell? ⟨p, 4, none⟩ = some (.map (some g1.fm)) := cell_blk hRX.wcell 4
  have hXp := blk_lt hRX.wcell
  have hXs : w1.heap.size ≤ X.heap.size := hFX.size
  have hna := isName_any a X has
  have hnb := isName_any b X hbs
  have HNA := Lib.hid hna
  have HNB := Lib.hid hnb
  clear hna hnb
  by_cases hn1 : isName a = true ∧ isName b = true
  · obtain ⟨hn1, hn2⟩ := hn1
    rw [hn1] at HNA
    rw [hn2] at HNB
    cases hf : find s.fs a with
    | none =>
      have HA : Hid (actRename a b { s with ch := s.ch.tail } ⟨k, n0, t⟩ ⟨7, 0, a, b, 0, 0⟩ = ({ s with ch := s.ch.tail }, ⟨7, 0, a, b, 0, 32⟩)) := Lib.hid (by unfold actRename; rw [if_neg (by simp [hn1, hn2])]; simp only; rw [hf])
      rw [show find ({ s with ch := s.ch.tail } : St).fs a = none from hf] at hlook
      simp only [fval] at hlook
      have HX := Lib.hid hX
      have HR := Lib.hid hRXd
      have HB := Lib.hid hbx
      have HF := Lib.hid hFX
      clear hX hRXd hRX hR hbx hbox hFX hF hwb1 hab1 hbb1 hwb hab hbb hf hc hXk hn1 hn2
      go_enter Tryz.func111, Tryz.ntmps111
      go_wp2_with fail
      rw [← HX.out]
      refine HNA.out.mono ?_
      rintro e w' ⟨rfl, rfl⟩
      go_wp2_with (go_at_call 35; refine HNB.out.mono ?_; rintro e w' ⟨rfl, rfl⟩)
      go_region
      go_wp2
      go_ret
      exact ⟨own1, g1, by rw [HA.out]; rfl, by rw [HA.out]; exact HR.out, by rw [HA.out]; exact HB.out, (HF.out.weak _).trans (fr_drew 1 _)⟩
    | some i =>
      have HA : Hid (actRename a b { s with ch := s.ch.tail } ⟨k, n0, t⟩ ⟨7, 0, a, b, 0, 0⟩ = ({ s with ch := s.ch.tail, fs := if a = b then s.fs else rnm s.fs b i }, ⟨7, 0, a, b, 0, 0⟩)) := Lib.hid (actRename_all (s := { s with ch := s.ch.tail }) hn1 hn2 hf)
      rw [show find ({ s with ch := s.ch.tail } : St).fs a = some i from hf] at hlook
      simp only [fval] at hlook
      obtain ⟨w2, w3, g', hdel, hg2, hupd, hR3, hF3⟩ := rename_rep (drew_rep hRXd) (a := a) (b := b) (i := i) hf hn2 has hbs
      have hne : p ≠ g1.fm := fun e => by have := hRX.fown; rw [← e, hRX.wown] at this; cases this
      have q4 : w2.cell? ⟨p, 4, none⟩ = some (.map (some g1.fm)) := cell_blk ((hg2.block p hXp (fun e => hne (Option.some.inj e))).trans hRX.wcell) 4
      have qw : w2.cell? ⟨wb, 0, none⟩ = some (.pointer (some ⟨p, 0, none⟩)) := cell_blk ((hg2.block wb (by show wb < X.heap.size; omega) (fun e => by rw [Option.some.inj e, hRX.fown] at hwo1; cases hwo1)).trans ((hXk wb hwl1).trans hwb1)) 0
      have qb : w2.cell? ⟨bb, 0, none⟩ = some (.string b) := cell_blk ((hg2.block bb (by show bb < X.heap.size; omega) (fun e => by rw [Option.some.inj e, hRX.fown] at hbo1; cases hbo1)).trans ((hXk bb hbl1).trans hbb1)) 0
      have hdb3 : w3.heap[db]? = some (.cells (ddcells ⟨7, 0, a, b, 0, 0⟩).toArray 82 (0, 0)) := (hF3.kept db (by show db < X.heap.size; omega) hdb (fun e => e)).trans hbx
      have hpz : p < w2.heap.size := Nat.lt_of_lt_of_le hXp hg2.size
      have HX := Lib.hid hX
      have HF := Lib.hid hFX
      have HD3 := Lib.hid hdb3
      have HR3 := Lib.hid hR3
      have HF3 := Lib.hid hF3
      have HDEL := Lib.hid hdel
      have HUPD := Lib.hid hupd
      clear hX hRXd hRX hR hbx hbox hFX hF hwb1 hab1 hbb1 hwb hab hbb hf hc hXk hn1 hn2 hg2 hdb3 hR3 hF3 hdel hupd
      go_enter Tryz.func111, Tryz.ntmps111
      go_wp2_with fail
      rw [← HX.out]
      refine HNA.out.mono ?_
      rintro e w' ⟨rfl, rfl⟩
      go_wp2_with (go_at_call 35; refine HNB.out.mono ?_; rintro e w' ⟨rfl, rfl⟩)
      go_region
      go_wp2
      have HDEL' := HDEL.out
      go_region
      clear HDEL'
      go_wp2
      have HUPD' := HUPD.out
      go_region
      clear HUPD'
      go_wp2
      go_ret
      refine ⟨own1, _, by rw [HA.out]; rfl, by rw [HA.out]; exact HR3.out, by rw [HA.out]; exact HD3.out, ?_⟩
      exact ((HF.out.weak _).trans (fr_drew 1 _)).trans ((fr_drew 1 _).trans (HF3.out.weak _))
  · have HA : Hid (actRename a b { s with ch := s.ch.tail } ⟨k, n0, t⟩ ⟨7, 0, a, b, 0, 0⟩ = ({ s with ch := s.ch.tail }, ⟨7, 0, a, b, 0, 35⟩)) := Lib.hid (by unfold actRename; rw [if_pos (by cases h1 : isName a <;> cases h2 : isName b <;> simp_all)])
    have HX := Lib.hid hX
    have HR := Lib.hid hRX
    have HB := Lib.hid hbx
    have HF := Lib.hid hFX
    clear hX hRXd hRX hR hbx hbox hFX hF hwb1 hab1 hbb1 hwb hab hbb hc hXk hlook
    cases h1 : isName a
    · rw [h1] at HNA
      clear h1 hn1
      go_enter Tryz.func111, Tryz.ntmps111
      go_wp2_with fail
      rw [← HX.out]
      refine HNA.out.mono ?_
      rintro e w' ⟨rfl, rfl⟩
      go_wp2_with (go_at_call 35; refine HNB.out.mono ?_; rintro e w' ⟨rfl, rfl⟩)
      go_ret
      exact ⟨own1, g1, by rw [HA.out]; rfl, by rw [HA.out]; exact HR.out, by rw [HA.out]; exact HB.out, HF.out.weak _⟩
    · have h2 : isName b = false := by cases h2 : isName b; rfl; exact absurd ⟨h1, h2⟩ hn1
      rw [h1] at HNA
      rw [h2] at HNB
      clear h1 h2 hn1
      go_enter Tryz.func111, Tryz.ntmps111
      go_wp2_with fail
      rw [← HX.out]
      refine HNA.out.mono ?_
      rintro e w' ⟨rfl, rfl⟩
      go_wp2_with (go_at_call 35; refine HNB.out.mono ?_; rintro e w' ⟨rfl, rfl⟩)
      go_ret
      exact ⟨own1, g1, by rw [HA.out]; rfl, by rw [HA.out]; exact HR.out, by rw [HA.out]; exact HB.out, HF.out.weak _⟩

set_option maxHeartbeats 2000000 in
set_option maxRecDepth 100000 in
theorem rename_any (own : Own) (w : World) (p : Nat) (s : St) (g : Gh) (a b : ByteArray) (h : Rep own w p s g) (ht : s.told.length ≤ 1099511627776) (has : a.size ≤ maxLen) (hbs : b.size ≤ maxLen) :
    Calls Tryz.prog 48 #[.pointer (some ⟨p, 0, none⟩), .string a, .string b] w (Ops own w p s ⟨7, 0, a, b, 0, 0⟩ (actRename a b) fun d => .int .i64 d.err) := by
  obtain ⟨W, hW⟩ : ∃ W, W = (((w.alloc (.cells #[.pointer (some ⟨p, 0, none⟩)] 29)).alloc (.cells #[.string a] 9)).alloc (.cells #[.string b] 9)).alloc (.cells #[.int .u8 7, .int .i64 0, .string a, .string b, .int .i64 0, .int .i64 0] 82) := ⟨_, rfl⟩
  have hB : Below w.heap.size w W := by rw [hW]; exact ((((Below.refl _ _).alloc (Nat.le_refl _) _).alloc (by simp) _).alloc (by simp; omega) _).alloc (by simp; omega) _
  have b0 : W.heap[w.heap.size]? = some (.cells #[.pointer (some ⟨p, 0, none⟩)] 29 (0, 0)) := by rw [hW]; exact (Below.heap_alloc _ _ _ (by simp; omega)).trans ((Below.heap_alloc _ _ _ (by simp; omega)).trans (alloc2_a w _ _))
  have b1 : W.heap[w.heap.size + 1]? = some (.cells #[.string a] 9 (0, 0)) := by rw [hW]; exact (Below.heap_alloc _ _ _ (by simp; try omega)).trans ((Below.heap_alloc _ _ _ (by simp)).trans (alloc2_b w _ _))
  have b2 : W.heap[w.heap.size + 2]? = some (.cells #[.string b] 9 (0, 0)) := by rw [hW]; exact (Below.heap_alloc _ _ _ (by simp)).trans (by have := heap_alloc_new ((w.alloc (.cells #[.pointer (some ⟨p, 0, none⟩)] 29)).alloc (.cells #[.string a] 9)) (.cells #[.string b] 9); simpa using this)
  have hRW := h.below hB (Nat.le_refl _)
  have hP := perform_any own W p s g hRW 7 0 a b 0 111 #[.pointer (some ⟨w.heap.size + 1, 0, none⟩), .pointer (some ⟨w.heap.size + 2, 0, none⟩), .pointer (some ⟨w.heap.size, 0, none⟩)] (actRename a b) (Go.Proofs.enters_of Tryz.func111 (by kernel_rfl) rfl)
    (Rename1_does own W p s a b _ _ _ b1 (owns_none h.owns (by omega)) b2 (owns_none h.owns (by omega)) b0 (owns_none h.owns (Nat.le_refl _)) has hbs) ht (told_rename _ _ _ _ _)
  have HP := Lib.hid hP
  have HW := Lib.hid hW
  have HFW := Lib.hid (Fr.of_below (own := own) hB (Nat.le_refl _) noE)
  clear hP hW b0 b1 b2 hRW hB h
  go_enter Tryz.func48, Tryz.ntmps48
  go_wp2_with fail
  rw [show ((((w.alloc (.cells #[.pointer (some ⟨p, 0, none⟩)] 29)).alloc (.cells #[.string a] 9)).alloc (.cells #[.string b] 9)).alloc (.cells #[.int .u8 7, .int .i64 0, .string a, .string b, .int .i64 0, .int .i64 0] 82)) = W from HW.out.symm]
  refine HP.out.mono ?_
  rintro e w1 ⟨own', g', rfl, hR, hF⟩
  obtain ⟨r, hr⟩ : ∃ r, r = perform s ⟨7, 0, a, b, 0, 0⟩ (actRename a b) := ⟨_, rfl⟩
  rw [← hr] at hR
  rw [← hr]
  obtain ⟨s', a0, a1, a2, a3, a4, a5⟩ := r
  have HF := Lib.hid hF
  have HPR := Lib.hid hr
  have HR := Lib.hid hR
  clear HP hF hr hR
  have e0 : (ddcells ⟨a0, a1, a2, a3, a4, a5⟩).toArray = #[.int .u8 a0, .int .i64 a1, .string a2, .string a3, .int .i64 a4, .int .i64 a5] := rfl
  simp only [e0]
  clear e0
  have hf := field5 a0 a1 a4 a5 a2 a3 w1
  go_wp2
  go_ret
  refine ⟨own', g', by rw [← HPR.out]; rfl, by rw [← HPR.out]; exact HR.out, HFW.out.trans HF.out⟩
end Go.Proofs.YtpkhghjmelgpeaaGreat.Wk
