/- riskedOrders. -/
import Derived.Test.YtpkhghjmelgpeaaGreatW30
set_option linter.unusedVariables false
namespace Go.Proofs.YtpkhghjmelgpeaaGreat.Wk
open Go.ChangeShapes Go.WideShapes Go.ChangeAt Go.RowKit M Go.Maps Go.Proofs

theorem icells_len (l : List Nat) : (icells l).length = l.length := by simp [icells]

set_option maxHeartbeats 8000000 in
set_option maxRecDepth 100000 in
theorem riskedOrders_any (own : Own) (w : World) (p : Nat) (s : St) (g : Gh) (h : Rep own w p s g) (hwr : s.writes ≤ 1099511627776) : Calls Tryz.prog 67 #[.pointer (some ⟨p, 0, none⟩)] w (OrdE w (ordersOf s.fs)) := by
  have c4 : w.cell? ⟨p, 4, none⟩ = some (.map (some g.fm)) := cell_blk h.wcell 4
  have hpl := blk_lt h.wcell
  have hfml : g.fm < w.heap.size := h.owns _ (by rw [h.fown]; simp)
  have hsz : Maps.size g.Df ≤ 64 := by rw [h.fis.size]; exact h.wf.full.1
  have HM := h.fmap
  have HFM := h.fis
  have HR := Lib.hid h
  clear h
  go_enter Tryz.func67, Tryz.ntmps67
  go_wp2_with (first
    | (at_range; refine wpList_range_own _ rfl _ 87 rfl 9 86 lawS Tryz.underlying87 Rp g.fm g.nf g.Df rfl HM ?_; intro w0 hrg0 hg0 hs0)
    | go_in)
  go_frame
  go_loopw [3] (fun v wr => OrdRel w s.fs g.fm g.nf g.Df v wr) (fun _ wr => wr.rangeLeft g.fm w.heap.size)
  case atStart => exact ⟨_, _, [], hrg0, by simpa using hsz, Went.start HFM, Row.nil _ _ _, ⟨hg0.os, hg0.tape, hg0.output, hg0.size, fun k hk => hg0.block k hk (by simp)⟩, by simp [blk]⟩
  case round =>
    obtain ⟨left, cnt, is, hrg, hcnt, hw, hr, hb, hv⟩ := hrel
    obtain ⟨wo, rfl⟩ : ∃ wo : World, wo = wr := ⟨_, rfl⟩
    obtain ⟨zs, hzs⟩ : ∃ zs, zs = is.flatMap (riskedOf s.fs) := ⟨_, rfl⟩
    have hzl : zs.length ≤ 4096 := by rw [hzs]; have := flat_len s.fs is; omega
    rw [← hzs] at hr
    have HZS := Lib.hid hzs
    clear hzs
    go_wp2_with (first
      | (at_next; refine wpList_next_files rfl _ rfl s.fs g.fb g.fm w.heap.size g.nf g.Df HFM _ _ rfl hrg ?_ ?_)
      | go_in)
    · intro hl0
      have ho : (zs.mergeSort fun a b => decide (a ≤ b)) = ordersOf s.fs := by rw [HZS.out]; exact hw.orders HR.out.wf hl0
      have HS := Lib.hid (sortI_any _ zs wo hr (by omega))
      have hlo : (ordersOf s.fs).length ≤ 4096 := by rw [← ho, List.length_mergeSort]; exact hzl
      have HO := Lib.hid ho
      have HB := Lib.hid hb
      have HV := Lib.hid hv
      clear hrg hcnt hw hr hb hv ho hl0
      go_wp2_with fail
      refine HS.out.mono ?_
      rintro e w2 ⟨rfl, hr2, hg2⟩
      have hle : zs.length = (ordersOf s.fs).length := by rw [← HO.out, List.length_mergeSort]
      rw [HO.out, hle] at hr2
      have H2 := Lib.hid hr2
      have HG := Lib.hid hg2
      clear hr2 hg2 hle
      go_wp2
      go_ret
      refine ⟨_, rfl, H2.out, ⟨HG.out.os.trans HB.out.os, HG.out.tape.trans HB.out.tape, HG.out.output.trans HB.out.output, Nat.le_trans HB.out.size HG.out.size, fun q hq => (HG.out.block q (Nat.lt_of_lt_of_le hq HB.out.size) (fun e => ?_)).trans (HB.out.block q hq)⟩, fun q hq => ?_, hlo⟩
      · have := HV.out q e.symm; omega
      · have := HV.out q hq; omega
    · intro t i w1 cnt1 ht hl hf hrg1 hlt hg1 hs1 hen
      obtain ⟨f, hf1, hn, hne⟩ := find_some hf
      obtain ⟨hfo, bv, sv, uv, hfb, hbv, hbl, hsv, hsl, huv, hul⟩ := HR.out.files i f hf1
      have hun := HR.out.wf.uns f (List.mem_of_getElem? hf1)
      have hul2 : f.uns.length ≤ 1099511627776 := Nat.le_trans (uns_len (HR.out.wf.ords f (List.mem_of_getElem? hf1)) (fun c hc => (hun c hc).2)) hwr
      have hb1 : Below w.heap.size w w1 := ⟨hg1.os.trans hb.os, hg1.tape.trans hb.tape, hg1.output.trans hb.output, Nat.le_trans hb.size hg1.size, fun q hq => (hg1.block q (Nat.lt_of_lt_of_le hq hb.size) (by simp; omega)).trans (hb.block q hq)⟩
      have hr1 : Row w1 3 1 _ _ _ := hr.grown hg1 (.inr fun e => by have := hv _ e; omega)
      have hw1 := hw.step ht hl hf
      obtain ⟨ua, uc, rfl, _, hue⟩ := huv.cells
      have hunc : f.uns.length ≤ uc := by
        rcases huv.2 with ⟨h0, a', hv'⟩ | ⟨g', cap, cur, hv', _, _, hn', _⟩
        · omega
        · cases hv'; exact hn'
      have hfb1 := (hb1.block _ (blk_lt hfb)).trans hfb
      have d2 : w1.cell? ⟨g.fb i, 2, none⟩ = some (.slice ua f.uns.length uc) := cell_blk hfb1 2
      have HRK := Lib.hid (risked_any (g.fb i) f.uns.length uc ua w1 d2 hunc hul2)
      obtain ⟨l, hl'⟩ : ∃ l, l = riskedOf s.fs i := ⟨_, rfl⟩
      have hll : l.length = min f.uns.length 64 := by rw [hl', risked_unl i hf1, List.length_map, List.length_take]; omega
      have hlx : ∀ k, k < l.length → ∃ c, f.uns[k]? = some c ∧ l[k]? = some c.ord := by
        intro k hk
        have hk2 : k < f.uns.length := by omega
        refine ⟨_, List.getElem?_eq_getElem hk2, ?_⟩
        rw [hl', risked_unl i hf1, List.getElem?_map, List.getElem?_take_of_lt (by omega), List.getElem?_eq_getElem hk2]; rfl
      have hzs2 : (is ++ [i]).flatMap (riskedOf s.fs) = zs ++ l := by rw [List.flatMap_append, HZS.out, hl']; simp
      have HZ2 := Lib.hid hzs2
      have HLX := Lib.hid hlx
      have HLL := Lib.hid hll
      have HUN := Lib.hid hun
      have HUE := Lib.hid hue
      have HB1 := Lib.hid hb1
      have HR1 := Lib.hid hr1
      have HV := Lib.hid hv
      have HW1 := Lib.hid hw1
      have HRG := Lib.hid hrg
      have HRG1 := Lib.hid hrg1
      have hl64 : l.length ≤ 64 := by omega
      clear hrg hw hr hb hv hl' hll hlx hzs2 hun hue hb1 hr1 hw1 hrg1 hfb hbv hsv huv hfb1 d2
      go_wp2_with fail
      refine HRK.out.mono ?_
      rintro e w2 ⟨rfl, rfl⟩
      rw [← HLL.out]
      clear HRK
      go_wp2
      go_loopw [20, 3] (fun i_ v wr => OrdRel2 w g.fm g.nf g.Df (fun z => left z && !z.sameKey (skey t)) cnt1 zs l i_ v wr) (fun i_ _ _ => l.length - (intOf i_).toNat)
      case atStart => exact ⟨0, Nat.zero_le _, rfl, HRG1.out, by rw [List.take_zero, List.append_nil]; exact HR1.out.kept (fun _ _ => rfl), HB1.out.trans ⟨rfl, rfl, rfl, Nat.le_refl _, fun _ _ => rfl⟩, HV.out⟩
      case round =>
        obtain ⟨k, hk, rfl, hrg, hr, hb, hv⟩ := hrel
        by_cases hkl : k < l.length
        · obtain ⟨ys, hys⟩ : ∃ ys, ys = zs ++ l.take k := ⟨_, rfl⟩
          have hysl : ys.length ≤ 5000 := by rw [hys]; simp; omega
          rw [← hys] at hr
          have HYS := Lib.hid hys
          clear hys
          obtain ⟨c, hx, hxl⟩ := HLX.out k hkl
          have hc2 := (HUN.out c (List.mem_of_getElem? hx)).2
          have hat := fun j hj => flat_at wrcells 4 (fun _ => rfl) f.uns k j c hx hj
          obtain ⟨gb, rfl, u0⟩ := HUE.out (k * 4) (.int .i64 c.ord) (by have := hat 0 (by omega); simpa [wrcells] using this)
          obtain ⟨_, e1, u1⟩ := HUE.out (k * 4 + 1) (.bool c.emp) (by have := hat 1 (by omega); simpa [wrcells] using this)
          cases e1
          obtain ⟨_, e1, u2⟩ := HUE.out (k * 4 + 2) (.int .i64 c.at_) (by have := hat 2 (by omega); simpa [wrcells] using this)
          cases e1
          obtain ⟨_, e1, u3⟩ := HUE.out (k * 4 + 3) (.string c.text) (by have := hat 3 (by omega); simpa [wrcells] using this)
          cases e1
          have hgl : gb < w.heap.size := World.block_lt_of_cell? w ⟨gb, k * 4, none⟩ u0
          have k0 := (hb.cell (p := ⟨gb, k * 4, none⟩) hgl).trans u0
          have k1 := (hb.cell (p := ⟨gb, k * 4 + 1, none⟩) hgl).trans u1
          have k2 := (hb.cell (p := ⟨gb, k * 4 + 2, none⟩) hgl).trans u2
          have k3 := (hb.cell (p := ⟨gb, k * 4 + 3, none⟩) hgl).trans u3
          obtain ⟨co, ce, ca, ct⟩ := c
          simp only at k0 k1 k2 k3 hc2 hxl
          have hBX : Below wr.heap.size wr (wr.alloc (.cells #[.int .i64 co, .bool ce, .int .i64 ca, .string ct] 149)) := (Below.refl _ _).alloc (Nat.le_refl _) _
          obtain ⟨v', w3, hra, hr3, hg3, hb3⟩ := append_int (wr.alloc (.cells #[.int .i64 co, .bool ce, .int .i64 ca, .string ct] 149)) _ ys (hr.kept fun q hq => hBX.block q (hr.lt q hq)) co (by omega)
          rw [show (wr.alloc (.cells #[.int .i64 co, .bool ce, .int .i64 ca, .string ct] 149)).heap.size = wr.heap.size + 1 from by simp] at hra
          obtain ⟨la, lc, rfl, _⟩ := hr.cells
          have hrl := hrg.lt
          have hrgX := hrg.alloc (.cells #[.int .i64 co, .bool ce, .int .i64 ca, .string ct] 149)
          have hrg3 := hrgX.kept hg3 (fun e => by have := hv _ e.symm; omega) (fun e => by have := hv _ e.symm; omega)
          have et : l.take (k + 1) = l.take k ++ [co] := by
            rw [List.take_succ_eq_append_getElem hkl]
            congr 2
            exact (List.getElem?_eq_some_iff.1 hxl).2
          have HRA := Lib.hid hra
          have H3 := Lib.hid hr3
          have HG3 := Lib.hid hg3
          have HB3 := Lib.hid hb3
          have HBX := Lib.hid hBX
          have HB := Lib.hid hb
          have HV2 := Lib.hid hv
          have HRG3 := Lib.hid hrg3
          have ET := Lib.hid et
          clear hra hr3 hg3 hb3 hBX hb hv hrg3 hrgX hrg hr et hx hxl hat u0 u1 u2 u3
          have hra' := HRA.out
          go_wp2_with (at_builtin; refine Lib.wpList_append_run _ rfl _ _ _ _ rfl _ _ rfl rfl _ _ hra' ?_)
          go_roundw
          case rel =>
            have hs3 := HG3.out.size
            have hsx := HBX.out.size
            have hsb := HB.out.size
            refine ⟨k + 1, by omega, by go_num, HRG3.out, by rw [ET.out, ← List.append_assoc, ← HYS.out]; exact H3.out, ⟨HG3.out.os.trans (HBX.out.os.trans HB.out.os), HG3.out.tape.trans (HBX.out.tape.trans HB.out.tape), HG3.out.output.trans (HBX.out.output.trans HB.out.output), by omega, fun q hq => (HG3.out.block q (by omega) (fun e => by have := HV2.out q e.symm; omega)).trans ((HBX.out.block q (by omega)).trans (HB.out.block q hq))⟩, fun q hq => ?_⟩
            rcases HB3.out with e | e
            · rw [hq] at e; exact HV2.out q e.symm
            · have := e q hq; omega
          case measure => simp [intOf]; omega
        · obtain rfl : k = l.length := by omega
          rw [List.take_length] at hr
          have H1 := Lib.hid hr
          have H2 := Lib.hid hb
          have H3 := Lib.hid hv
          have H4 := Lib.hid hrg
          clear hr hb hv hrg
          go_wp2
          go_roundw
          case rel => exact ⟨_, cnt1, is ++ [i], H4.out, by simp; omega, HW1.out, by rw [HZ2.out]; exact H1.out, H2.out, H3.out⟩
          case measure => rw [H4.out.left_eq, HRG.out.left_eq]; omega
end Go.Proofs.YtpkhghjmelgpeaaGreat.Wk
