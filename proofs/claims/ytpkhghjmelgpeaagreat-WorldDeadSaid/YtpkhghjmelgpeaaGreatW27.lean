/- sync, Sync. -/
import Derived.Test.YtpkhghjmelgpeaaGreatW26
set_option linter.unusedVariables false
namespace Go.Proofs.YtpkhghjmelgpeaaGreat.Wk
open Go.ChangeShapes Go.WideShapes Go.ChangeAt Go.RowKit M

theorem fold_len (l : List Wr) : ∀ (b : List UInt8), b.length ≤ 4194304 → (∀ c ∈ l, c.at_ + c.text.size ≤ 4194304) → (l.foldl app b).length ≤ 4194304 := by
  induction l with
  | nil => intro b hb _; exact hb
  | cons c r ih =>
    intro b hb hc
    refine ih _ ?_ (fun x hx => hc x (by simp [hx]))
    have := app_len b c; have := hc c (by simp); omega

def SyncRel (own : Own) (w : World) (gb i : Nat) (bv uv : Value) (base : List UInt8) (l : List Wr) (ix : Value) (wr : World) : Prop :=
  ∃ (k : Nat) (v : Value), k ≤ l.length ∧ ix = .int .i64 k ∧ wr.heap[gb]? = some (.cells #[bv, v, uv] 121 (0, 0)) ∧ Row wr 5 1 v ((l.take k).foldl app base).length (bcells ((l.take k).foldl app base)) ∧ (∀ q, blk v = some q → q < w.heap.size → own q = some (.f i 2)) ∧
    (wr.os = w.os ∧ wr.tape = w.tape ∧ wr.output = w.output ∧ w.heap.size ≤ wr.heap.size) ∧ ∀ q, q < w.heap.size → q ≠ gb → own q ≠ some (.f i 2) → wr.heap[q]? = w.heap[q]?

set_option maxHeartbeats 4000000 in
set_option maxRecDepth 100000 in
theorem sync_any (own : Own) (w : World) (p : Nat) (s : St) (g : Gh) (h : Rep own w p s g) (i : Nat) (f : Fs) (hf : s.fs[i]? = some f) (hw : s.writes ≤ 1099511627776) :
    Calls Tryz.prog 110 #[.pointer (some ⟨g.fb i, 0, none⟩)] w (Changed own w p { s with fs := setF s.fs i fun f => { f with base := f.now, uns := [] } } g) := by
  obtain ⟨hfo, bv, sv, uv, hfb, hbv, hbl, hsv, hsl, huv, hul⟩ := h.files i f hf
  obtain ⟨ua, uc, rfl, _⟩ := huv.cells
  have hpf : p ≠ g.fb i := fun e => by rw [← e, h.wown] at hfo; cases hfo
  have hfl := blk_lt hfb
  have hlen := (h.wf.len f (List.mem_of_getElem? hf)).2
  have hun := h.wf.uns f (List.mem_of_getElem? hf)
  have hul2 : f.uns.length ≤ 1099511627776 := Nat.le_trans (uns_len (h.wf.ords f (List.mem_of_getElem? hf)) (fun c hc => (hun c hc).2)) hw
  have y2 : w.cell? ⟨g.fb i, 2, none⟩ = some (.slice ua f.uns.length uc) := cell_blk hfb 2
  obtain ⟨l, hl⟩ : ∃ l, l = f.uns := ⟨_, rfl⟩
  have HL := Lib.hid hl
  rw [← hl] at huv hul hul2 y2 hfb hun
  have hnow : f.now = l.foldl app f.base := by rw [hl]; exact h.wf.now f (List.mem_of_getElem? hf)
  have HNOW := Lib.hid hnow
  have HFB := Lib.hid hfb
  have HS := Lib.hid hsv
  have HSL := Lib.hid hsl
  have HB := Lib.hid hbv
  have HBL := Lib.hid hbl
  have HU := Lib.hid huv
  have HUL := Lib.hid hul
  have HR := Lib.hid h
  have HFO := Lib.hid hfo
  have HF := Lib.hid hf
  have HUN := Lib.hid hun
  have HLT := Lib.hid hfl
  have HPF := Lib.hid hpf
  have HW := Lib.hid hw
  clear h hfo hfb hbv hbl hsv hsl huv hul hf hl hnow hun hfl hpf hw
  go_enter Tryz.func110, Tryz.ntmps110
  go_wp2
  go_loopw [9] (fun i_ wr => SyncRel own w (g.fb i) i bv (.slice ua l.length uc) f.base l i_ wr) (fun i_ _ => l.length - (intOf i_).toNat)
  case atStart => exact ⟨0, sv, Nat.zero_le _, rfl, HFB.out, HS.out, fun q hq _ => HSL.out q hq, ⟨rfl, rfl, rfl, Nat.le_refl _⟩, fun _ _ _ _ => rfl⟩
  case round =>
    obtain ⟨k, v, hk, rfl, hb, hr, hv, hos, hfr⟩ := hrel
    by_cases hlt : k < l.length
    · obtain ⟨c, hx⟩ : ∃ c, l[k]? = some c := ⟨_, List.getElem?_eq_getElem hlt⟩
      have hc1 := (HUN.out c (List.mem_of_getElem? hx)).1
      have huR : Row wr 149 4 (.slice ua l.length uc) l.length (l.flatMap wrcells) := HU.out.kept fun q hq => by
        have hq3 := HUL.out q hq
        exact hfr q (HR.out.owns q (by rw [hq3]; simp)) (fun e => by subst e; rw [HFO.out] at hq3; cases hq3) (by rw [hq3]; simp)
      obtain ⟨_, _, e0, _, huw⟩ := huR.cells
      cases e0
      have hat := fun j hj => flat_at wrcells 4 (fun _ => rfl) l k j c hx hj
      obtain ⟨gb, rfl, u0⟩ := huw (k * 4) (.int .i64 c.ord) (by have := hat 0 (by omega); simpa [wrcells] using this)
      obtain ⟨_, e1, u1⟩ := huw (k * 4 + 1) (.bool c.emp) (by have := hat 1 (by omega); simpa [wrcells] using this)
      cases e1
      obtain ⟨_, e1, u2⟩ := huw (k * 4 + 2) (.int .i64 c.at_) (by have := hat 2 (by omega); simpa [wrcells] using this)
      cases e1
      obtain ⟨_, e1, u3⟩ := huw (k * 4 + 3) (.string c.text) (by have := hat 3 (by omega); simpa [wrcells] using this)
      cases e1
      obtain ⟨co, ce, ca, ct⟩ := c
      simp only at u0 u1 u2 u3 hc1
      obtain ⟨X, hX⟩ : ∃ X, X = wr.alloc (.cells #[.int .i64 co, .bool ce, .int .i64 ca, .string ct] 149) := ⟨_, rfl⟩
      have hBX : Below wr.heap.size wr X := by rw [hX]; exact (Below.refl _ _).alloc (Nat.le_refl _) _
      have hXb : X.heap[wr.heap.size]? = some (.cells #[.int .i64 co, .bool ce, .int .i64 ca, .string ct] 149 (0, 0)) := by rw [hX]; exact heap_alloc_new wr _
      have hXs : X.heap.size = wr.heap.size + 1 := by rw [hX]; simp
      have hfl : g.fb i < wr.heap.size := blk_lt hb
      have hXf := (hBX.block _ hfl).trans hb
      have hrX : Row X 5 1 _ _ _ := hr.kept (w' := X) fun q hq => hBX.block q (hr.lt q hq)
      obtain ⟨va, vc, rfl, _⟩ := hr.cells
      have x1 : X.cell? ⟨g.fb i, 1, none⟩ = some (.slice va ((l.take k).foldl app f.base).length vc) := cell_blk hXf 1
      obtain ⟨b0, b1, b2, b3, bf⟩ := box4 hXb
      have hsl : ((l.take k).foldl app f.base).length ≤ 4194304 := fold_len _ _ hlen (fun x hx => (HUN.out x (List.mem_of_mem_take hx)).1)
      have hap : ∀ X' : World, X'.heap = X.heap → Calls Tryz.prog 125 #[.agg #[.int .i64 co, .bool ce, .int .i64 ca, .string ct], .slice va ((l.take k).foldl app f.base).length vc] X' (Handed X' (.slice va ((l.take k).foldl app f.base).length vc) (app ((l.take k).foldl app f.base) ⟨co, ce, ca, ct⟩)) := (fun X' e => apply_all co ce ca ct (.slice va ((l.take k).foldl app f.base).length vc) _ X' (hrX.kept fun q _ => by rw [e]) hsl hc1)
      have et : (l.take (k + 1)).foldl app f.base = app ((l.take k).foldl app f.base) ⟨co, ce, ca, ct⟩ := by
        rw [List.take_succ_eq_append_getElem hlt, List.foldl_append]
        show app _ _ = _
        congr 1
        exact (List.getElem?_eq_some_iff.1 hx).2
      have hne : some (g.fb i) ≠ blk (.slice va ((l.take k).foldl app f.base).length vc) := fun e => by
        have := hv _ e.symm HLT.out; rw [HFO.out] at this; cases this
      have HAP := Lib.hid hap
      have ET := Lib.hid et
      have HX := Lib.hid hX
      have HXF := Lib.hid hXf
      have HXS := Lib.hid hXs
      have HBX := Lib.hid hBX
      have HV := Lib.hid hv
      have HOS := Lib.hid hos
      have HFR := Lib.hid hfr
      have HNE := Lib.hid hne
      have HFL : Hid (g.fb i < X.heap.size) := Lib.hid (by omega)
      clear hb hr hv hos hfr hx huR huw hat hX hBX hXb hXs hfl hXf hrX hsl et hne hap
      go_wp2
      rw [← HX.out]
      clear u0 u1 u2 u3
      go_region_with ((go_at_call 125; refine (HAP.out _ (by rfl)).mono ?_; rintro e w2 ⟨v', rfl, hv', hg2, hb2⟩; obtain ⟨va', vc', rfl, _⟩ := hv'.cells; have hz := (hg2.block _ HFL.out HNE.out).trans HXF.out; have z0 := cell_blk hz 1; have z1 := frozen_blk hz 1; have HZ := Lib.hid hz; have HV2 := Lib.hid hv'; have HG := Lib.hid hg2; have HB2 := Lib.hid hb2; clear hz hv' hg2 hb2))
      all_goals
        go_wp2
        go_roundw
        case rel =>
          have hs2 : X.heap.size ≤ w2.heap.size := HG.out.size
          have hxs := HXS.out
          obtain ⟨o1, o2, o3, o4⟩ := HOS.out
          refine ⟨k + 1, .slice va' _ vc', by omega, by go_num, blk_set HZ.out 1 _, ?_, ?_, ⟨HG.out.os.trans (HBX.out.os.trans o1), HG.out.tape.trans (HBX.out.tape.trans o2), HG.out.output.trans (HBX.out.output.trans o3), by rw [size_set]; omega⟩, ?_⟩
          · rw [ET.out]
            refine HV2.out.kept fun q hq => blk_set_other _ _ _ _ _ fun e => ?_
            subst e
            rcases HB2.out with e2 | e2
            · rw [hq] at e2; exact HNE.out e2
            · have h3 : X.heap.size ≤ g.fb i := e2 _ hq; have := HFL.out; omega
          · intro q hq hql
            rcases HB2.out with e2 | e2
            · rw [hq] at e2; exact HV.out q e2.symm hql
            · have h3 : X.heap.size ≤ q := e2 _ hq; omega
          · intro q hq hqn hqo
            rw [blk_set_other _ _ _ _ _ hqn]
            exact (HG.out.block q (by show q < X.heap.size; omega) (fun e => hqo (HV.out q e.symm hq))).trans ((HBX.out.block q (by omega)).trans (HFR.out q hq hqn hqo))
        case measure => simp [intOf]; omega
    · obtain rfl : k = l.length := by omega
      rw [List.take_length, ← HNOW.out] at hr
      have hzc := cell_blk hb 2
      have hzf := frozen_blk hb 2
      have HZ := Lib.hid hb
      have H1 := Lib.hid hr
      have HV := Lib.hid hv
      have HOS := Lib.hid hos
      have HFR := Lib.hid hfr
      clear hb hr hv hos hfr
      go_wp2
      go_end0
      obtain ⟨o1, o2, o3, o4⟩ := HOS.out
      have hold : ∀ q, q < w.heap.size → own.newV v (.f i 2) q = own q := fun q hq => by
        unfold Own.newV; split
        · rename_i e; exact (HV.out q e hq).symm
        · rfl
      have hvl := H1.out.lt
      have hoth : ∀ q, q < w.heap.size → q ≠ g.fb i → own q ≠ some (.f i 2) → (wr.setCell ⟨g.fb i, 2, none⟩ (.slice none 0 0)).heap[q]? = w.heap[q]? := fun q h1 h2 h3 => (blk_set_other _ _ _ _ _ h2).trans (HFR.out q h1 h2 h3)
      have hfr2 := file_rep HR.out (own' := own.newV v (.f i 2)) (w' := wr.setCell ⟨g.fb i, 2, none⟩ (.slice none 0 0)) i (fun f => { f with base := f.now, uns := [] }) (fun _ => rfl) s.writes f HF.out o1 o2 o3 (by rw [size_set]; exact o4) ?_ hold
        (fun q h1 h2 h3 => hoth q h1 (fun e => h3 0 (by rw [e]; exact HFO.out)) (h3 2))
        ((hoth p (blk_lt HR.out.wcell) HPF.out (by rw [HR.out.wown]; simp)).trans HR.out.wcell) ?_ (wf_sync HR.out.wf i)
      · exact ⟨_, rfl, hfr2.1, hfr2.2⟩
      · intro q hq
        rw [size_set]
        unfold Own.newV at hq
        split at hq
        · rename_i e; exact hvl q e
        · have := HR.out.owns q hq; omega
      · refine ⟨(hold _ HLT.out).trans HFO.out, bv, v, .slice none 0 0, blk_set HZ.out 2 _, ?_, ?_, ?_, ?_, Row.nil _ _ _, fun q hq => by simp [blk] at hq⟩
        · exact HB.out.kept fun q hq => by
            have hq1 := HBL.out q hq
            exact hoth q (HR.out.owns q (by rw [hq1]; simp)) (fun e => by subst e; rw [HFO.out] at hq1; cases hq1) (by rw [hq1]; simp)
        · intro q hq
          have hq1 := HBL.out q hq
          exact (hold q (HR.out.owns q (by rw [hq1]; simp))).trans hq1
        · exact H1.out.kept fun q hq => blk_set_other _ _ _ _ _ fun e => by
            subst e; have := HV.out _ hq HLT.out; rw [HFO.out] at this; cases this
        · intro q hq; unfold Own.newV; rw [if_pos hq]
end Go.Proofs.YtpkhghjmelgpeaaGreat.Wk
