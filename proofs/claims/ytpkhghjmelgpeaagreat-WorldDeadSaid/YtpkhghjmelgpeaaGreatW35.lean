/- Close, of a handle that is no host's. -/
import Derived.Test.YtpkhghjmelgpeaaGreatW34
set_option linter.unusedVariables false
namespace Go.Proofs.YtpkhghjmelgpeaaGreat.Wk
open Go.ChangeShapes Go.WideShapes Go.ChangeAt Go.RowKit M Go.Maps Go.Proofs

theorem drew_rep {own : Own} {w : World} {p : Nat} {s : St} {g : Gh} (h : Rep own w p s g) : Rep own w.drew p s g := h.kept h.owns (fun _ _ e => e) (fun _ _ _ _ => rfl)
theorem told_close (n : Int) (s : St) (c : Ch) (d : Dd) : (actClose n s c d).1.told = s.told := by
  unfold actClose; split <;> rfl
theorem del_any {own : Own} {w : World} {p : Nat} {s : St} {g : Gh} (h : Rep own w p s g) (n : Int) (hn : (Lit.int .i64 n).wf = true) :
    ∃ w1, (Builtin.delete_ #[88, 3] 0 #[.map (some g.hm), .int .i64 n]).run Tryz.prog w = .ok (.tuple #[]) w1 ∧ w1.ownsMap Tryz.prog 3 Rh g.hm g.nh (g.Dh.del (ikey n)) ∧ w.grownBy w1 (some g.hm) := by
  obtain ⟨w1, h1, h2, h3⟩ := World.ownsMap.drop h.hmap lawI Tryz.underlying88 (key := .int .i64 n) (Maps.keyOf_int_mk Tryz.underlying3 hn) 0
  exact ⟨w1, h1, h2, h3.grown⟩

set_option maxHeartbeats 8000000 in
set_option maxRecDepth 100000 in
theorem Close1_does (own : Own) (w : World) (p : Nat) (s : St) (n : Int) (wb nb : Nat) (hwb : w.heap[wb]? = some (.cells #[.pointer (some ⟨p, 0, none⟩)] 29 (0, 0))) (hwo : own wb = none) (hnb : w.heap[nb]? = some (.cells #[.int .i64 n] 3 (0, 0))) (hno : own nb = none) (hn : (Lit.int .i64 n).wf = true)
    (hnh : ∀ st, hdOf s.hs n ≠ .host st) :
    Does own w p 86 #[.pointer (some ⟨wb, 0, none⟩), .pointer (some ⟨nb, 0, none⟩)] s ⟨6, n, noS, noS, 0, 0⟩ (actClose n) := by
  intro own1 w1 g1 db k n0 t hc hR hdb hbox hF
  have hwb1 := (hF.kept _ (blk_lt hwb) hwo (fun e => e)).trans hwb
  have hnb1 := (hF.kept _ (blk_lt hnb) hno (fun e => e)).trans hnb
  have hwl1 := blk_lt hwb1
  have hnl1 := blk_lt hnb1
  have hdl1 := blk_lt hbox
  obtain ⟨X, hX⟩ : ∃ X, X = w1.alloc (.cells #[.int .u8 k, .int .i64 n0, .string t] 63) := ⟨_, rfl⟩
  have hXk : ∀ q, q < w1.heap.size → X.heap[q]? = w1.heap[q]? := fun q hq => by rw [hX]; exact Below.heap_alloc _ _ _ hq
  have hRX : Rep own1 X p { s with ch := s.ch.tail } g1 ∧ Fr own1 w1 own1 X noE := by rw [hX]; exact alloc_rep hR _
  obtain ⟨hRX, hFX⟩ := hRX
  have cw := cell_blk ((hXk wb hwl1).trans hwb1) 0
  have cn := cell_blk ((hXk nb hnl1).trans hnb1) 0
  have hbx := (hXk db hdl1).trans hbox
  have hRXd := drew_rep hRX
  have hlook := look_h2 hRXd n hn
  have c6 : X.cell? ⟨p, 6, none⟩ = some (.map (some g1.hm)) := cell_blk hRX.wcell 6
  have hXp := blk_lt hRX.wcell
  have hXs : w1.heap.size ≤ X.heap.size := hFX.size
  cases hh : hdOf s.hs n with
  | host st => exact absurd hh (hnh st)
  | closed =>
    have HA : Hid (actClose n { s with ch := s.ch.tail } ⟨k, n0, t⟩ ⟨6, n, noS, noS, 0, 0⟩ = ({ s with ch := s.ch.tail }, ⟨6, n, noS, noS, 0, 30⟩)) := Lib.hid (by unfold actClose; simp only; rw [hh])
    rw [show hdOf ({ s with ch := s.ch.tail } : St).hs n = .closed from hh] at hlook
    simp only [hval, Hd.there] at hlook
    have HX := Lib.hid hX
    have HR := Lib.hid hRXd
    have HB := Lib.hid hbx
    have HF := Lib.hid hFX
    clear hX hRXd hRX hR hbx hbox hFX hF hwb1 hnb1 hwb hnb hh hc hnh hXk
    go_enter Tryz.func86, Tryz.ntmps86
    go_wp2_with fail
    rw [← HX.out]
    go_region
    go_wp2
    go_ret
    exact ⟨own1, g1, by rw [HA.out]; rfl, by rw [HA.out]; exact HR.out, by rw [HA.out]; exact HB.out, (HF.out.weak _).trans (fr_drew 1 _)⟩
  | file st i m a =>
    rw [show hdOf ({ s with ch := s.ch.tail } : St).hs n = .file st i m a from hh] at hlook
    simp only [hval, Hd.there] at hlook
    have hH := hRX.hands _ _ (hdOf_get hh (by simp)).2
    obtain ⟨_, fp, hhb, _⟩ := hH
    have c0 : X.cell? ⟨g1.hb (n.toNat - 1), 0, none⟩ = some (.bool st) := cell_blk hhb 0
    have hflt := fault_any (g1.hb (n.toNat - 1)) st X.drew c0
    clear c0
    cases st
    · have HA : Hid (actClose n { s with ch := s.ch.tail } ⟨k, n0, t⟩ ⟨6, n, noS, noS, 0, 0⟩ = ({ s with ch := s.ch.tail, hs := setAt s.hs n .closed }, ⟨6, n, noS, noS, 0, 0⟩)) := Lib.hid (by unfold actClose; simp only; rw [hh])
      have hRXdd := drew_rep hRXd
      obtain ⟨w2, hdel, hm2, hg2⟩ := del_any hRXdd n hn
      have hfin := close_rep hRXdd hn (by show (hdOf s.hs n).live = true; rw [hh]; rfl) hm2 hg2
      have hne : p ≠ g1.hm := fun e => by have := hRX.hown; rw [← e, hRX.wown] at this; cases this
      have hwc2 : w2.heap[p]? = _ := (hg2.block p hXp (fun e => hne (Option.some.inj e))).trans hRX.wcell
      have q8 := cell_blk hwc2 8
      have qf8 := frozen_blk hwc2 8
      have qw : w2.cell? ⟨wb, 0, none⟩ = some (.pointer (some ⟨p, 0, none⟩)) := by
        have : own1 wb = none := (hF.old _ (blk_lt hwb)).trans hwo
        exact cell_blk ((hg2.block wb (by show wb < X.heap.size; omega) (fun e => by rw [Option.some.inj e, hRX.hown] at this; cases this)).trans ((hXk wb hwl1).trans hwb1)) 0
      have hdb2 : w2.heap[db]? = some (.cells (ddcells ⟨6, n, noS, noS, 0, 0⟩).toArray 82 (0, 0)) := (hg2.block db (by show db < X.heap.size; omega) (fun e => by rw [Option.some.inj e, hRX.hown] at hdb; cases hdb)).trans hbx
      have hlv : live s.hs ≤ 32 := hRX.wf.full.2
      have hpd : db ≠ p := fun e => by rw [e, hRX.wown] at hdb; cases hdb
      have HX := Lib.hid hX
      have HF := Lib.hid hFX
      have HFIN := Lib.hid hfin
      have HD2 := Lib.hid hdb2
      have HDEL := Lib.hid hdel
      have HFLT := Lib.hid hflt
      have hpz : p < w2.heap.size := blk_lt hwc2
      have hnbl : nb < X.heap.size := by omega
      have hwbl : wb < X.heap.size := by omega
      have hhbl : g1.hb (n.toNat - 1) < X.heap.size := blk_lt hhb
      clear hX hRXd hRX hRXdd hR hbx hbox hFX hF hwb1 hnb1 hwb hnb hh hc hnh hXk hfin hdel hm2 hg2 hwc2 hdb2 hhb hflt
      go_enter Tryz.func86, Tryz.ntmps86
      go_wp2_with fail
      rw [← HX.out]
      go_region
      go_wp2_with (go_at_call 130; refine HFLT.out.mono ?_; rintro e w' ⟨rfl, rfl⟩)
      have HDEL' := HDEL.out
      go_region
      clear HDEL'
      go_wp2
      go_ret
      obtain ⟨z1, z2⟩ := HFIN.out
      refine ⟨own1, _, by rw [HA.out]; rfl, by rw [HA.out]; exact z1, ?_, ?_⟩
      · rw [HA.out]; exact (blk_set_other _ _ _ _ _ hpd).trans HD2.out
      · exact ((HF.out.weak _).trans (fr_drew 1 _)).trans ((fr_drew 1 _).trans (z2.weak _))
    · have HA : Hid (actClose n { s with ch := s.ch.tail } ⟨k, n0, t⟩ ⟨6, n, noS, noS, 0, 0⟩ = ({ s with ch := s.ch.tail }, ⟨6, n, noS, noS, 0, 31⟩)) := Lib.hid (by unfold actClose; simp only; rw [hh])
      have HX := Lib.hid hX
      have HR := Lib.hid hRXd
      have HB := Lib.hid hbx
      have HF := Lib.hid hFX
      have HFLT := Lib.hid hflt
      clear hX hRXd hRX hR hbx hbox hFX hF hwb1 hnb1 hwb hnb hh hc hnh hXk hhb hflt
      go_enter Tryz.func86, Tryz.ntmps86
      go_wp2_with fail
      rw [← HX.out]
      go_region
      go_wp2_with (go_at_call 130; refine HFLT.out.mono ?_; rintro e w' ⟨rfl, rfl⟩)
      go_ret
      exact ⟨own1, g1, by rw [HA.out]; rfl, by rw [HA.out]; exact HR.out, by rw [HA.out]; exact HB.out, (HF.out.weak _).trans (fr_drew 1 _)⟩

set_option maxHeartbeats 2000000 in
set_option maxRecDepth 100000 in
theorem close_any (own : Own) (w : World) (p : Nat) (s : St) (g : Gh) (dh : Int) (h : Rep own w p s g) (ht : s.told.length ≤ 1099511627776) (hh : (Lit.int .i64 dh).wf = true)
    (hD : ∀ (W : World) (wb nb : Nat), W.heap[wb]? = some (.cells #[.pointer (some ⟨p, 0, none⟩)] 29 (0, 0)) → own wb = none → W.heap[nb]? = some (.cells #[.int .i64 dh] 3 (0, 0)) → own nb = none → Does own W p 86 #[.pointer (some ⟨wb, 0, none⟩), .pointer (some ⟨nb, 0, none⟩)] s ⟨6, dh, noS, noS, 0, 0⟩ (actClose dh)) :
    Calls Tryz.prog 25 #[.pointer (some ⟨p, 0, none⟩), .int .i64 dh] w (Ops own w p s ⟨6, dh, noS, noS, 0, 0⟩ (actClose dh) fun d => .int .i64 d.err) := by
  obtain ⟨W, hW⟩ : ∃ W, W = ((w.alloc (.cells #[.pointer (some ⟨p, 0, none⟩)] 29)).alloc (.cells #[.int .i64 dh] 3)).alloc (.cells #[.int .u8 6, .int .i64 dh, .string noS, .string noS, .int .i64 0, .int .i64 0] 82) := ⟨_, rfl⟩
  have hB : Below w.heap.size w W := by rw [hW]; exact (((Below.refl _ _).alloc (Nat.le_refl _) _).alloc (by simp) _).alloc (by simp; omega) _
  have b0 : W.heap[w.heap.size]? = some (.cells #[.pointer (some ⟨p, 0, none⟩)] 29 (0, 0)) := by rw [hW]; exact (Below.heap_alloc _ _ _ (by simp; omega)).trans (alloc2_a w _ _)
  have b1 : W.heap[w.heap.size + 1]? = some (.cells #[.int .i64 dh] 3 (0, 0)) := by rw [hW]; exact (Below.heap_alloc _ _ _ (by simp)).trans (alloc2_b w _ _)
  have hRW := h.below hB (Nat.le_refl _)
  have hP := perform_any own W p s g hRW 6 dh noS noS 0 86 #[.pointer (some ⟨w.heap.size, 0, none⟩), .pointer (some ⟨w.heap.size + 1, 0, none⟩)] (actClose dh) (Go.Proofs.enters_of Tryz.func86 (by kernel_rfl) rfl)
    (hD W _ _ b0 (owns_none h.owns (Nat.le_refl _)) b1 (owns_none h.owns (by omega))) ht (told_close _ _ _ _)
  have HP := Lib.hid hP
  have HW := Lib.hid hW
  have HFW := Lib.hid (Fr.of_below (own := own) hB (Nat.le_refl _) noE)
  clear hP hW b0 b1 hRW hB h hD
  go_enter Tryz.func25, Tryz.ntmps25
  go_wp2_with fail
  rw [show (((w.alloc (.cells #[.pointer (some ⟨p, 0, none⟩)] 29)).alloc (.cells #[.int .i64 dh] 3)).alloc (.cells #[.int .u8 6, .int .i64 dh, .string ⟨#[]⟩, .string ⟨#[]⟩, .int .i64 0, .int .i64 0] 82)) = W from HW.out.symm]
  refine HP.out.mono ?_
  rintro e w1 ⟨own', g', rfl, hR, hF⟩
  obtain ⟨r, hr⟩ : ∃ r, r = perform s ⟨6, dh, noS, noS, 0, 0⟩ (actClose dh) := ⟨_, rfl⟩
  rw [← hr] at hR
  rw [← hr]
  obtain ⟨s', a0, a1, a2, a3, a4, a5⟩ := r
  have HF := Lib.hid hF
  have HPR := Lib.hid hr
  have HR := Lib.hid hR
  clear HP hF hr hR
  have e0 : (ddcells ⟨a0, a1, a2, a3, a4, a5⟩).toArray = #[.int .u8 a0, .int .i64 a1, .string a2, .string a3, .int .i64 a4, .int .i64 a5] := rfl
  simp only [e0]
  clear e0
  have hf := field5 a0 a1 a4 a5 a2 a3 w1
  go_wp2
  go_ret
  refine ⟨own', g', by rw [← HPR.out]; rfl, by rw [← HPR.out]; exact HR.out, HFW.out.trans HF.out⟩
end Go.Proofs.YtpkhghjmelgpeaaGreat.Wk
