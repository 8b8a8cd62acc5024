/- Left. -/
import Derived.Test.YtpkhghjmelgpeaaGreatW32
import Derived.Test.YtpkhghjmelgpeaaGreatW31
set_option linter.unusedVariables false
namespace Go.Proofs.YtpkhghjmelgpeaaGreat.Wk
open Go.ChangeShapes Go.WideShapes Go.ChangeAt Go.RowKit M Go.Maps Go.Proofs

theorem ch_take (l : List Ch) : ∀ (m : Nat), (l.take m).flatMap chcells = (l.flatMap chcells).take (m * 3) := by
  induction l with
  | nil => intro m; simp
  | cons x r ih =>
    intro m
    cases m with
    | zero => simp
    | succ m =>
      rw [List.take_succ_cons, List.flatMap_cons, List.flatMap_cons, ih m, show (m + 1) * 3 = m * 3 + 1 + 1 + 1 from by omega]
      rfl
theorem rd_take {w : World} {a : Option Addr} {c : Nat} {l : List Ch} (h : Rd w 3 (.slice a l.length c) l.length (l.flatMap chcells)) (m : Nat) (hm : m ≤ l.length) : Rd w 3 (.slice a (l.take m).length c) (l.take m).length ((l.take m).flatMap chcells) := by
  obtain ⟨a', c', e, h1, h2⟩ := h
  cases e
  have hl : (l.take m).length = m := by rw [List.length_take]; omega
  refine ⟨a, c, rfl, ?_, fun j u hu => h2 j u ?_⟩
  · rw [ch_take, List.length_take, hl, h1]; omega
  · rw [ch_take, List.getElem?_take] at hu
    split at hu
    · exact hu
    · cases hu

set_option maxHeartbeats 8000000 in
set_option maxRecDepth 100000 in
theorem left_any (own : Own) (w : World) (p : Nat) (s : St) (g : Gh) (h : Rep own w p s g) (hwr : s.writes ≤ 1099511627776) (which : Nat) (hwh : which < 18446744073709551616) (a : Option Addr) (c : Nat) (l : List Ch) (hv : Rd w 3 (.slice a l.length c) l.length (l.flatMap chcells)) (hlc : l.length ≤ c) :
    Calls Tryz.prog 16 #[.pointer (some ⟨p, 0, none⟩), .int .u64 which, .slice a l.length c] w (LeftE w s which (l.take 65536)) := by
  obtain ⟨cs, hcs⟩ : ∃ cs, cs = l.take 65536 := ⟨_, rfl⟩
  have hcsl : cs.length = min l.length 65536 := by rw [hcs, List.length_take]; omega
  have hm1 : min (l.length : Int) 65536 = (cs.length : Int) := by omega
  have hm2 : (cs.length : Int) ≤ (c : Int) := by omega
  have hrd : Rd w 3 (.slice a cs.length c) cs.length (cs.flatMap chcells) := by
    have := rd_take hv (min l.length 65536) (by omega)
    have e : l.take (min l.length 65536) = cs := by
      rw [hcs]
      by_cases h : l.length ≤ 65536
      · rw [Nat.min_eq_left h, List.take_of_length_le h, List.take_of_length_le (Nat.le_refl _)]
      · rw [Nat.min_eq_right (by omega)]
    rw [e] at this; exact this
  rw [← hcs]
  have HBG := Lib.hid (begin_any (.slice a cs.length c) cs w hrd (by omega))
  have HR := Lib.hid h
  have hsz : Maps.size g.Df ≤ 64 := by rw [h.fis.size]; exact h.wf.full.1
  have HSZ := Lib.hid hsz
  have HFM := h.fis
  clear h hsz hcs hcsl hrd hv
  go_enter Tryz.func16, Tryz.ntmps16
  go_wp2_with fail
  refine HBG.out.mono ?_
  rintro e w1 ⟨p2, own1, g1, rfl, hR1, hn1, hB1⟩
  have hp2 : w.heap.size ≤ p2 := Nat.le_of_not_lt fun hlt => by have := hn1 p2 hlt; rw [hR1.wown] at this; cases this
  have hpl := blk_lt HR.out.wcell
  have hp2l := blk_lt hR1.wcell
  obtain ⟨w2, hw2⟩ : ∃ w2, w2 = w1.setCell ⟨p2, 1, none⟩ (.int .i64 s.clock) := ⟨_, rfl⟩
  have hs2 : w2.heap.size = w1.heap.size := by rw [hw2, size_set]
  have hB2 : Below w.heap.size w w2 := by
    rw [hw2]; exact ⟨hB1.os, hB1.tape, hB1.output, by rw [size_set]; exact hB1.size, fun k hk => (blk_set_other _ _ _ _ _ (by omega)).trans (hB1.block k hk)⟩
  have hR2 : Rep own1 w2 p2 (leftSt s which cs []) g1 := by rw [hw2]; exact rep_clock hR1 s.clock HR.out.wf.clock
  have HRO := Lib.hid (riskedOrders_any own w2 p s g (HR.out.below hB2 (Nat.le_refl _)) hwr)
  have c1 : w1.cell? ⟨p, 1, none⟩ = some (.int .i64 s.clock) := cell_blk ((hB1.block p hpl).trans HR.out.wcell) 1
  have d1 := cell_blk hR1.wcell 1
  have d2 := frozen_blk hR1.wcell 1
  have HW2 := Lib.hid hw2
  have HS2 := Lib.hid hs2
  have HB2 := Lib.hid hB2
  have HR2 := Lib.hid hR2
  have HN1 := Lib.hid hn1
  clear hR1 hn1 hB1 hw2 hs2 hB2 hR2 HBG
  go_wp2_with fail
  rw [← HW2.out]
  clear c1 d1 d2
  refine HRO.out.mono ?_
  rintro e w3 ⟨ov, rfl, hro, hb3, hk3, hol⟩
  have hB3 : Below w.heap.size w w3 := HB2.out.trans (hb3.mono HB2.out.size)
  have HM := (HR.out.below hB3 (Nat.le_refl _)).fmap
  have c4 : w3.cell? ⟨p, 4, none⟩ = some (.map (some g.fm)) := cell_blk (HR.out.below hB3 (Nat.le_refl _)).wcell 4
  have HRO2 := Lib.hid hro
  have Hb3 := Lib.hid hb3
  have HB3 := Lib.hid hB3
  have HK3 := Lib.hid hk3
  clear hro hb3 hk3 hB3 HRO
  go_wp2_with (first
    | (at_range; refine wpList_range_own _ rfl _ 87 rfl 9 86 lawS Tryz.underlying87 Rp g.fm g.nf g.Df rfl HM ?_; intro w0 hrg0 hg0 hs0)
    | go_in)
  go_frame
  go_loopw [9] (fun _ wr => LeftRel w s which cs g.fm g.nf g.Df w3.heap.size p2 ov wr) (fun _ wr => wr.rangeLeft g.fm w3.heap.size)
  case atStart =>
    have hg0' : Below w2.heap.size w2 w0 := Hb3.out.trans ⟨hg0.os, hg0.tape, hg0.output, hg0.size, fun k hk => hg0.block k (Nat.lt_of_lt_of_le hk Hb3.out.size) (by simp)⟩
    have hs3 := Hb3.out.size
    refine ⟨_, _, [], own1, g1, hrg0, by simpa using HSZ.out, Went.start HFM, HR2.out.below hg0' (Nat.le_refl _), HN1.out, owns_none HR2.out.owns hs3, fun k hk => ⟨owns_none HR2.out.owns (HK3.out k hk), ?_, ?_⟩, ?_, HB2.out.trans (hg0'.mono HB2.out.size)⟩
    · have := HRO2.out.lt k hk; omega
    · have := HRO2.out.lt k hk; omega
    · exact HRO2.out.grown hg0 (by cases blk ov <;> simp)
  case round =>
    obtain ⟨left, cnt, is, own2, g2, hrg, hcnt, hw, hR, hnn, hnr, hov, hrow, hb⟩ := hrel
    obtain ⟨wo, rfl⟩ : ∃ wo : World, wo = wr := ⟨_, rfl⟩
    go_wp2_with (first
      | (at_next; refine wpList_next_files rfl _ rfl s.fs g.fb g.fm w3.heap.size g.nf g.Df HFM _ _ rfl hrg ?_ ?_)
      | go_in)
    · intro hl0
      have HX := Lib.hid hR
      have HP := Lib.hid (hw.perm HR.out.wf hl0)
      have HN := Lib.hid hnn
      have HB := Lib.hid hb
      clear hrg hw hR hnn hnr hov hrow hb hl0
      go_wp2
      go_ret
      exact ⟨p2, own2, g2, is, rfl, HP.out, HX.out, HN.out, HB.out⟩
    · intro t i w5 cnt1 ht hl hf hrg1 hlt hg1 hs1 hen
      obtain ⟨f, hf1, hn, hne⟩ := find_some hf
      have hrw := HB3.out.size
      have hb5 : Below w.heap.size w w5 := ⟨hg1.os.trans hb.os, hg1.tape.trans hb.tape, hg1.output.trans hb.output, Nat.le_trans hb.size hg1.size, fun q hq => (hg1.block q (Nat.lt_of_lt_of_le hq hb.size) (by simp; omega)).trans (hb.block q hq)⟩
      have hR5 : Rep own2 w5.drew p2 (leftSt s which cs is) g2 := hR.kept (fun k hk => by show k < w5.heap.size; rw [hs1]; exact hR.owns k hk) (fun _ _ e => e) (fun k l e _ => hg1.block k (hR.owns k (by rw [e]; simp)) (fun e2 => by rw [Option.some.inj e2, hnr] at e; cases e))
      obtain ⟨hfo, bv, sv, uv, hfb, hbv, hbl, hsv, hsl, huv, hul⟩ := HR.out.files i f hf1
      have hun := HR.out.wf.uns f (List.mem_of_getElem? hf1)
      have hlen := (HR.out.wf.len f (List.mem_of_getElem? hf1)).2
      have hul2 : f.uns.length ≤ 1099511627776 := Nat.le_trans (uns_len (HR.out.wf.ords f (List.mem_of_getElem? hf1)) (fun c hc => (hun c hc).2)) hwr
      have hov5 : Row w5.drew 3 1 ov _ _ := (hrow.grown hg1 (.inr fun e => (hov _ e).2.2 rfl)).kept (w' := w5.drew) (fun _ _ => rfl)
      have hnm : isName t = true := by rw [← hn]; exact HR.out.wf.isName f (List.mem_of_getElem? hf1) (by rw [hn]; exact hne)
      obtain ⟨L, hL⟩ : ∃ L, L = surv which (ordersOf s.fs) f.base (f.uns.take 64) := ⟨_, rfl⟩
      have hLl : L.length ≤ 4194304 := by rw [hL]; exact surv_len which _ _ _ hlen (fun x hx => (hun x (List.mem_of_mem_take hx)).1)
      have HSV := survivors_any (g.fb i) bv sv uv ov f.base f.uns (ordersOf s.fs) which w5.drew ((hb5.block _ (blk_lt hfb)).trans hfb) (hsv.kept fun q hq => hb5.block q (hsv.lt q hq)) (huv.kept fun q hq => hb5.block q (huv.lt q hq)) hov5 (orders_sorted _) hlen (fun c hc => ⟨(hun c hc).1, Nat.le_of_lt (Nat.lt_of_lt_of_le (hun c hc).2 hwr)⟩) hul2 (by omega) hwh
      rw [← hL] at HSV
      have HSV := Lib.hid HSV
      have y4 : w5.drew.cell? ⟨p2, 4, none⟩ = some (.map (some g2.fm)) := cell_blk hR5.wcell 4
      have hp25 : p2 < w5.drew.heap.size := blk_lt hR5.wcell
      have hfm25 : g2.fm < w5.drew.heap.size := hR5.owns _ (by rw [hR5.fown]; simp)
      have hnl : named (leftSt s which cs is).fs ≤ is.length := by have := named_le (leftSt s which cs is).fs; simpa [leftSt] using this
      have hms : Maps.size g2.Df ≤ 64 := by rw [hR5.fis.size]; omega
      have hfind := left_find (which := which) hw ht hl hf
      have hw1 := hw.step ht hl hf
      have hgfm : g.fm < w.heap.size := HR.out.owns _ (by rw [HR.out.fown]; simp)
      have HL := Lib.hid hL
      have HR5 := Lib.hid hR5
      have HB5 := Lib.hid hb5
      have HNM := Lib.hid hnm
      have HFI := Lib.hid hfind
      have HW1 := Lib.hid hw1
      have HNN := Lib.hid hnn
      have HNR := Lib.hid hnr
      have HOV := Lib.hid hov
      have HOV5 := Lib.hid hov5
      have HRG := Lib.hid hrg
      have HRG1 := Lib.hid hrg1
      have HF1 := Lib.hid hf1
      have HN := Lib.hid hn
      have HS1 := Lib.hid hs1
      have HG1 := Lib.hid hg1
      clear hL hR5 hb5 hnm hfind hw1 hnn hnr hov hov5 hrg hrg1 hf1 hn hs1 hg1 hb hR hrow hw hfb hbv hbl hsv hsl huv hul hun hfo hl hf hg0
      go_wp2
      go_region_with (first
        | (go_at_call 68; refine HSV.out.mono ?_; rintro e w6 ⟨lv, rfl, hl6, hb6, hk6⟩; have hset := settled_any lv L w6 hl6 (by omega); have y6 := (hb6.cell (p := ⟨p2, 4, none⟩) hp25).trans y4; have HSET := Lib.hid hset; have H61 := Lib.hid hl6; have H62 := Lib.hid hb6; have H63 := Lib.hid hk6; clear hset hl6 hb6 hk6)
        | (go_at_call 36; refine HSET.out.mono ?_; rintro e w7 ⟨q, sv', rfl, hqc, hq, hsv7, hsl7, hb7⟩; have hbz := H62.out.trans (hb7.mono H62.out.size); obtain ⟨w8, hru, hm8, hg8⟩ := (ownsMap_tight (ownsMap_kept (w' := w7) HR5.out.fmap (hbz.block _ hfm25))).update lawS Tryz.underlying87 (by unfold maxLen; omega) (key := .string t) (val := .pointer (some ⟨q, 0, none⟩)) (Go.WideMaps.keyOf_string_mk Tryz.underlying9 ht) (d := pd q) (ps := []) rfl; have y7 := (hbz.cell (p := ⟨p2, 4, none⟩) hp25).trans y4; have HRU := hru; have H71 := Lib.hid hqc; have H72 := Lib.hid hsv7; have H73 := Lib.hid hsl7; have H74 := Lib.hid hb7; have H75 := Lib.hid hbz; have H76 := Lib.hid hm8; have H77 := Lib.hid hg8; have H78 := Lib.hid hq; clear hru hqc hsv7 hsl7 hb7 hbz hm8 hg8 hq))
      all_goals (clear HRU; try go_wp2)
      all_goals
        have hz0 := H62.out.size
        have hz1 := H74.out.size
        have hz2 := H78.out
        have hl7 : Row _ 5 1 lv L.length (bcells L) := H61.out.kept fun k hk => H74.out.block k (H61.out.lt k hk)
        obtain ⟨own', hR', hF'⟩ := newfile_fin HR5.out (bv := lv) (sv := sv') (l := L) HNM.out ht HFI.out hLl (by omega) H75.out (by omega) H71.out hl7 H72.out (fun k e => ⟨H63.out k e, by have := H61.out.lt k e; omega⟩) (fun k e => ⟨by have := (H73.out k e).1; omega, (H73.out k e).2⟩) (fun k e e2 => by have := H61.out.lt k e; have := (H73.out k e2).1; omega) H76.out H77.out
        have hst := left_snoc (which := which) (cs := cs) (is := is) HF1.out
        rw [← HL.out, HN.out] at hst
        have hR2 := hst ▸ hR'
        have hrd : (w5.drew).ranges Tryz.prog 9 Rp g.fm w3.heap.size g.nf g.Df (fun z => left z && !z.sameKey (skey t)) cnt1 := HRG1.out
        have hr7 := hrd.kept (row := none) ⟨H75.out.os, H75.out.tape, H75.out.output, H75.out.size, fun k hk _ => H75.out.block k hk⟩ (by simp) (by simp)
        have hr8 := hr7.kept H77.out (fun e => by have h1 := HNN.out g.fm hgfm; rw [Option.some.inj e, HR5.out.fown] at h1; cases h1) (fun e => by have h1 := HNR.out; rw [Option.some.inj e, HR5.out.fown] at h1; cases h1)
        have hs5 : w5.drew.heap.size = wo.heap.size := HS1.out
        have hsw := HB5.out.size
        have hrl : w3.heap.size < wo.heap.size := HRG.out.lt
        have hs5' : w5.heap.size = wo.heap.size := HS1.out
        go_roundw
        case rel =>
          refine ⟨_, cnt1, is ++ [i], own', _, hr8, by simp; omega, HW1.out, hR2, fun k hk => (hF'.old k (by omega)).trans (HNN.out k hk), (hF'.old _ (by omega)).trans HNR.out, fun k hk => ?_, ?_, ?_⟩
          · obtain ⟨e1, e2, e3⟩ := HOV.out k hk
            exact ⟨(hF'.old k (by omega)).trans e1, Nat.lt_of_lt_of_le (by omega) hF'.size, e3⟩
          · exact HOV5.out.kept fun k hk => hF'.kept k (HOV5.out.lt k hk) (HOV.out k hk).1 (fun e => e)
          · exact HB5.out.trans ⟨hF'.os, hF'.tape, hF'.output, hF'.size, fun k hk => hF'.kept k (by omega) (HNN.out k hk) (fun e => e)⟩
        case measure => rw [hr8.left_eq, HRG.out.left_eq]; omega
end Go.Proofs.YtpkhghjmelgpeaaGreat.Wk
