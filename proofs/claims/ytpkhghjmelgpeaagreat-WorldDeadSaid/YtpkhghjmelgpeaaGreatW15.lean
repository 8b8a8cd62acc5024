/- change: the walk. -/
import Derived.Test.YtpkhghjmelgpeaaGreatW14
set_option linter.unusedVariables false
namespace Go.Proofs.YtpkhghjmelgpeaaGreat.Wk
open Go.ChangeShapes Go.WideShapes Go.ChangeAt Go.RowKit M

theorem apply_all (o : Nat) (emp : Bool) (p : Nat) (t : ByteArray) (v : Value) (l : List UInt8) (w : World) (h : Row w 5 1 v l.length (bcells l)) (hl : l.length ≤ 4194304) (hp : p + t.size ≤ 4194304) :
    Calls Tryz.prog 125 #[.agg #[.int .i64 o, .bool emp, .int .i64 p, .string t], v] w (Handed w v (app l ⟨o, emp, p, t⟩)) := by
  cases emp
  · exact apply_any o p t v l w h hl hp
  · refine (apply_emp o p t v w).mono ?_
    rintro e w' ⟨rfl, hb⟩
    refine ⟨_, rfl, ?_, ⟨hb.os, hb.tape, hb.output, hb.size, fun k hk _ => hb.block k hk⟩, .inr (by simp [blk])⟩
    have : app l ⟨o, true, p, t⟩ = [] := by unfold app; rfl
    rw [this]; exact Row.nil _ _ _

set_option maxHeartbeats 1000000 in
theorem change_fin {own : Own} {w X w2 w3 : World} {p : Nat} {s : St} {g : Gh} (h : Rep own w p s g) {i : Nat} {f : Fs} (hf : s.fs[i]? = some f) {emp : Bool} {a : Nat} {t : ByteArray} (hb : a + t.size ≤ 4194304) {bv sv uv v' uv' : Value}
    (hfo : own (g.fb i) = some (.f i 0)) (hbl : lab own bv (.f i 1)) (hsl : lab own sv (.f i 2)) (hul : lab own uv (.f i 3))
    (os : X.os = w.os) (tp : X.tape = w.tape) (out : X.output = w.output) (hXs : X.heap.size = w.heap.size + 1) (hXo : ∀ k, k < w.heap.size → k ≠ p → X.heap[k]? = w.heap[k]?)
    (hXp : X.heap[p]? = some (.cells #[g.cv, .int .i64 s.clock, .bool s.dead, g.tv, .map (some g.fm), .int .i64 ((s.writes : Int) + 1), .map (some g.hm), .int .i64 s.hs.length, .int .i64 (live s.hs)] 90 (0, 0)))
    (hXf : X.heap[g.fb i]? = some (.cells #[bv, sv, uv] 121 (0, 0))) (hsv : Row X 5 1 sv f.base.length (bcells f.base))
    (hv : Row w2 5 1 v' (app f.now ⟨s.writes, emp, a, t⟩).length (bcells (app f.now ⟨s.writes, emp, a, t⟩))) (hg2 : X.grownBy w2 (blk bv)) (hb2 : blk v' = blk bv ∨ ∀ k, blk v' = some k → X.heap.size ≤ k)
    (hu : Row w3 149 4 uv' (f.uns ++ [(⟨s.writes, emp, a, t⟩ : Wr)]).length ((f.uns ++ [(⟨s.writes, emp, a, t⟩ : Wr)]).flatMap wrcells)) (hg3 : (w2.setCell ⟨g.fb i, 0, none⟩ v').grownBy w3 (blk uv)) (hb3 : blk uv' = blk uv ∨ ∀ k, blk uv' = some k → w2.heap.size ≤ k) :
    ∃ own', Rep own' (w3.setCell ⟨g.fb i, 2, none⟩ uv') p (change s i emp a t) g ∧ Fr own w own' (w3.setCell ⟨g.fb i, 2, none⟩ uv') noE := by
  have hfl : g.fb i < w.heap.size := h.owns _ (by rw [hfo]; simp)
  have hpl := blk_lt h.wcell
  have hs2 := hg2.size
  have hs3 := hg3.size
  rw [size_set] at hs3
  have hl1 : ∀ k, blk bv = some k → k < w.heap.size := fun k e => h.owns k (by rw [hbl k e]; simp)
  have hl2 : ∀ k, blk sv = some k → k < w.heap.size := fun k e => h.owns k (by rw [hsl k e]; simp)
  have hl3 : ∀ k, blk uv = some k → k < w.heap.size := fun k e => h.owns k (by rw [hul k e]; simp)
  have hvl := hv.lt
  have hul' := hu.lt
  have n1 : ∀ k, k < w.heap.size → own k ≠ some (.f i 1) → blk v' ≠ some k := fun k hk hn e => by
    rcases hb2 with e2 | e2
    · rw [e] at e2; exact hn (hbl k e2.symm)
    · have := e2 k e; omega
  have n3 : ∀ k, k < w.heap.size → own k ≠ some (.f i 3) → blk uv' ≠ some k := fun k hk hn e => by
    rcases hb3 with e2 | e2
    · rw [e] at e2; exact hn (hul k e2.symm)
    · have := e2 k e; omega
  have hap : ∀ k, blk v' = some k → blk uv' ≠ some k := fun k e e' => by
    rcases hb3 with e3 | e3
    · rw [e'] at e3
      have h3 := hul k e3.symm
      have := hl3 k e3.symm
      exact n1 k this (by rw [h3]; simp) e
    · have := e3 k e'; have := hvl k e; omega
  have hold1 : ∀ k, k < w.heap.size → own.newV v' (.f i 1) k = own k := fun k hk => by
    unfold Own.newV; split
    · rename_i e
      rcases hb2 with e2 | e2
      · rw [e] at e2; exact (hbl k e2.symm).symm
      · have := e2 k e; omega
    · rfl
  have hold : ∀ k, k < w.heap.size → (own.newV v' (.f i 1)).newV uv' (.f i 3) k = own k := fun k hk => by
    unfold Own.newV; split
    · rename_i e
      rcases hb3 with e2 | e2
      · rw [e] at e2; exact (hul k e2.symm).symm
      · have := e2 k e; omega
    · exact hold1 k hk
  have hz : ∀ k, k < w.heap.size → k ≠ p → (∀ j, own k ≠ some (.f i j)) → (w3.setCell ⟨g.fb i, 2, none⟩ uv').heap[k]? = w.heap[k]? := fun k hk hp hn => by
    have hkf : k ≠ g.fb i := fun e => by subst e; exact hn 0 hfo
    rw [blk_set_other _ _ _ _ _ hkf, hg3.block k (by rw [size_set]; omega) (fun e => hn 3 (hul k e.symm)), blk_set_other _ _ _ _ _ hkf, hg2.block k (by omega) (fun e => hn 1 (hbl k e.symm))]
    exact hXo k hk hp
  have hpf : p ≠ g.fb i := fun e => by rw [← e, h.wown] at hfo; cases hfo
  have hzp : (w3.setCell ⟨g.fb i, 2, none⟩ uv').heap[p]? = X.heap[p]? := by
    rw [blk_set_other _ _ _ _ _ hpf, hg3.block p (by rw [size_set]; omega) (fun e => by have := hul p e.symm; rw [h.wown] at this; cases this), blk_set_other _ _ _ _ _ hpf, hg2.block p (by omega) (fun e => by have := hbl p e.symm; rw [h.wown] at this; cases this)]
  have hw2f : w2.heap[g.fb i]? = X.heap[g.fb i]? := hg2.block _ (by omega) (fun e => by have := hbl _ e.symm; rw [hfo] at this; cases this)
  have hw3f : w3.heap[g.fb i]? = (w2.setCell ⟨g.fb i, 0, none⟩ v').heap[g.fb i]? := hg3.block _ (by rw [size_set]; omega) (fun e => by have := hul _ e.symm; rw [hfo] at this; cases this)
  have hzf : (w3.setCell ⟨g.fb i, 2, none⟩ uv').heap[g.fb i]? = some (.cells #[v', sv, uv'] 121 (0, 0)) := blk_set (hw3f.trans (blk_set (hw2f.trans hXf) 0 v')) 2 uv'
  have hvf : ∀ k, blk v' = some k → k ≠ g.fb i := fun k e e2 => by subst e2; exact n1 _ hfl (by rw [hfo]; simp) e
  have huf : ∀ k, blk uv' = some k → k ≠ g.fb i := fun k e e2 => by subst e2; exact n3 _ hfl (by rw [hfo]; simp) e
  refine ⟨(own.newV v' (.f i 1)).newV uv' (.f i 3), ?_⟩
  refine file_rep h i (fun f => { f with now := app f.now ⟨s.writes, emp, a, t⟩, uns := f.uns ++ [⟨s.writes, emp, a, t⟩] }) (fun _ => rfl) (s.writes + 1) f hf (hg3.os.trans (hg2.os.trans os)) (hg3.tape.trans (hg2.tape.trans tp)) (hg3.output.trans (hg2.output.trans out)) (by rw [size_set]; omega) ?_ hold hz (hzp.trans hXp) ?_ (wf_change h.wf i emp a t hb)
  · intro k hk
    rw [size_set]
    unfold Own.newV at hk
    split at hk
    · rename_i e; exact hul' k e
    · split at hk
      · rename_i e; have := hvl k e; omega
      · have := h.owns k hk; omega
  · refine ⟨(hold _ hfl).trans hfo, v', sv, uv', hzf, ?_, ?_, ?_, ?_, ?_, ?_⟩
    · refine hv.kept fun k e => ?_
      rw [blk_set_other _ _ _ _ _ (hvf k e), hg3.block k (by rw [size_set]; exact hvl k e) (fun e2 => ?_), blk_set_other _ _ _ _ _ (hvf k e)]
      exact n1 k (hl3 k e2.symm) (by rw [hul k e2.symm]; simp) e
    · intro k e
      unfold Own.newV
      rw [if_neg (hap k e), if_pos e]
    · refine hsv.kept fun k e => ?_
      have hlk := hl2 k e
      have hkf : k ≠ g.fb i := fun e2 => by subst e2; have := hsl _ e; rw [hfo] at this; cases this
      rw [blk_set_other _ _ _ _ _ hkf, hg3.block k (by rw [size_set]; omega) (fun e2 => by have := hul k e2.symm; rw [hsl k e] at this; cases this), blk_set_other _ _ _ _ _ hkf, hg2.block k (by omega) (fun e2 => by have := hbl k e2.symm; rw [hsl k e] at this; cases this)]
    · exact fun k e => (hold k (hl2 k e)).trans (hsl k e)
    · exact hu.kept fun k e => blk_set_other _ _ _ _ _ (huf k e)
    · intro k e; unfold Own.newV; rw [if_pos e]

set_option maxHeartbeats 4000000 in
set_option maxRecDepth 100000 in
theorem change_any (own : Own) (w : World) (p : Nat) (s : St) (g : Gh) (h : Rep own w p s g) (i : Nat) (f : Fs) (hf : s.fs[i]? = some f) (o : Int) (emp : Bool) (a : Nat) (t : ByteArray) (hb : a + t.size ≤ 4194304) (hw : s.writes ≤ 1099511627776) :
    Calls Tryz.prog 91 #[.pointer (some ⟨p, 0, none⟩), .pointer (some ⟨g.fb i, 0, none⟩), .agg #[.int .i64 o, .bool emp, .int .i64 a, .string t]] w (Changed own w p (change s i emp a t) g) := by
  obtain ⟨hfo, bv, sv, uv, hfb, hbv, hbl, hsv, hsl, huv, hul⟩ := h.files i f hf
  obtain ⟨ba, bc, rfl, _⟩ := hbv.cells
  obtain ⟨ua, uc, rfl, _⟩ := huv.cells
  have hpf : p ≠ g.fb i := fun e => by rw [← e, h.wown] at hfo; cases hfo
  have hpl := blk_lt h.wcell
  have hfl := blk_lt hfb
  have c5 : w.cell? ⟨p, 5, none⟩ = some (.int .i64 s.writes) := cell_blk h.wcell 5
  have p5 := frozen_blk h.wcell 5
  have y0 : w.cell? ⟨g.fb i, 0, none⟩ = some (.slice ba f.now.length bc) := cell_blk hfb 0
  have y2 : w.cell? ⟨g.fb i, 2, none⟩ = some (.slice ua f.uns.length uc) := cell_blk hfb 2
  have yf := frozen_blk hfb
  obtain ⟨X, hX⟩ : ∃ X, X = (w.setCell ⟨p, 5, none⟩ (.int .i64 ((s.writes : Int) + 1))).alloc (.cells #[.int .i64 s.writes, .bool emp, .int .i64 a, .string t] 149) := ⟨_, rfl⟩
  have hXs : X.heap.size = w.heap.size + 1 := by rw [hX]; simp
  have hX1 : X.os = w.os ∧ X.tape = w.tape ∧ X.output = w.output := by rw [hX]; exact ⟨rfl, rfl, rfl⟩
  have HX1 := Lib.hid hX1
  clear hX1
  have hXo : ∀ k, k < w.heap.size → k ≠ p → X.heap[k]? = w.heap[k]? := fun k hk hne => by rw [hX, Below.heap_alloc _ _ _ (by rw [size_set]; exact hk)]; exact blk_set_other _ _ _ _ _ hne
  have hXp : X.heap[p]? = some (.cells #[g.cv, .int .i64 s.clock, .bool s.dead, g.tv, .map (some g.fm), .int .i64 ((s.writes : Int) + 1), .map (some g.hm), .int .i64 s.hs.length, .int .i64 (live s.hs)] 90 (0, 0)) := by
    rw [hX, Below.heap_alloc _ _ _ (by rw [size_set]; exact hpl)]; exact blk_set h.wcell 5 _
  have hXb : X.heap[w.heap.size]? = some (.cells #[.int .i64 s.writes, .bool emp, .int .i64 a, .string t] 149 (0, 0)) := by
    rw [hX]; have := heap_alloc_new (w.setCell ⟨p, 5, none⟩ (.int .i64 ((s.writes : Int) + 1))) (.cells #[.int .i64 s.writes, .bool emp, .int .i64 a, .string t] 149); rw [size_set] at this; exact this
  have hXf := (hXo _ hfl hpf.symm).trans hfb
  have hnotp : ∀ (v : Value) (j : Nat), lab own v (.f i j) → ∀ k, blk v = some k → k < w.heap.size ∧ k ≠ p := fun v j hl k hk => ⟨h.owns k (by rw [hl k hk]; simp), fun e => by subst e; have := hl k hk; rw [h.wown] at this; cases this⟩
  have hbvX : Row X 5 1 (.slice ba f.now.length bc) f.now.length (bcells f.now) := hbv.kept fun k hk => hXo k (hnotp _ 1 hbl k hk).1 (hnotp _ 1 hbl k hk).2
  have hsvX := hsv.kept (w' := X) fun k hk => hXo k (hnotp _ 2 hsl k hk).1 (hnotp _ 2 hsl k hk).2
  have huvX : Row X 149 4 (.slice ua f.uns.length uc) f.uns.length (f.uns.flatMap wrcells) := huv.kept fun k hk => hXo k (hnotp _ 3 hul k hk).1 (hnotp _ 3 hul k hk).2
  have hlen := (h.wf.len f (List.mem_of_getElem? hf)).1
  have hul2 : f.uns.length ≤ 1099511627776 := Nat.le_trans (uns_len (h.wf.ords f (List.mem_of_getElem? hf)) (fun c hc => (h.wf.uns f (List.mem_of_getElem? hf) c hc).2)) hw
  have hap : ∀ X' : World, X'.heap = X.heap → Calls Tryz.prog 125 #[.agg #[.int .i64 s.writes, .bool emp, .int .i64 a, .string t], .slice ba f.now.length bc] X' (Handed X' (.slice ba f.now.length bc) (app f.now ⟨s.writes, emp, a, t⟩)) :=
    fun X' e => apply_all s.writes emp a t _ f.now X' (hbvX.kept fun k _ => by rw [e]) hlen hb
  have hfb1 : some (g.fb i) ≠ blk (.slice ba f.now.length bc) := fun e => by have := hbl _ e.symm; rw [hfo] at this; cases this
  have hlt : g.fb i < X.heap.size := by omega
  obtain ⟨b0, b1, b2, b3, bf⟩ := box4 hXb
  have x0 : X.cell? ⟨g.fb i, 0, none⟩ = some (.slice ba f.now.length bc) := cell_blk hXf 0
  have HX := Lib.hid hX
  have HXF := Lib.hid hXf
  have HXP := Lib.hid hXp
  have HXO := Lib.hid hXo
  have HXS := Lib.hid hXs
  have HXB := Lib.hid hXb
  have HAP := Lib.hid hap
  have HB := Lib.hid hbvX
  have HS := Lib.hid hsvX
  have HU := Lib.hid huvX
  have HR := Lib.hid h
  have HBL := Lib.hid hbl
  have HSL := Lib.hid hsl
  have HUL := Lib.hid hul
  have HNE := Lib.hid hfb1
  have HLT := Lib.hid hlt
  have HF := Lib.hid hf
  have HFO := Lib.hid hfo
  clear h hbv hbl hsv hsl huv hul hfb hX hXf hXp hXo hXs hXb hap hbvX hsvX huvX hfb1 hlt hnotp hf hfo
  go_enter Tryz.func91, Tryz.ntmps91
  go_wp2
  rw [← HX.out]
  clear HX
  clear c5 p5 y0 y2 yf
  go_region_with ((go_at_call 125; refine (HAP.out _ (by rfl)).mono ?_; rintro e w2 ⟨v', rfl, hv', hg2, hb2⟩; obtain ⟨va, vc, rfl, _⟩ := hv'.cells; have hz := (hg2.block _ HLT.out HNE.out).trans HXF.out; have z0 := cell_blk hz 0; have z1 := frozen_blk hz 0; have HZ := Lib.hid hz; have HV := Lib.hid hv'; have HG := Lib.hid hg2; have HB2 := Lib.hid hb2; clear hz hv' hg2 hb2))
  all_goals
    have hwb := (HG.out.block w.heap.size (by have := HXS.out; show w.heap.size < X.heap.size; omega) (fun e => by have := HR.out.owns w.heap.size (by rw [HBL.out _ e.symm]; simp); omega)).trans HXB.out
    have hwl : w.heap.size < w2.heap.size := by have h1 := HG.out.size; have h2 := HXS.out; have h3 : X.heap.size ≤ w2.heap.size := h1; omega
    obtain ⟨q0, q1, q2, q3, qf⟩ := box4 hwb
    have hne4 : w.heap.size ≠ g.fb i := by omega
    have hfl2 : g.fb i < w2.heap.size := by omega
    have z2 := cell_blk HZ.out 2
    have hu2 : Row (w2.setCell ⟨g.fb i, 0, none⟩ (.slice va (app f.now ⟨s.writes, emp, a, t⟩).length vc)).drew 149 4 (.slice ua f.uns.length uc) f.uns.length (f.uns.flatMap wrcells) := HU.out.kept fun k e => by
      have hk := HUL.out k e
      have hkw := HR.out.owns k (by rw [hk]; simp)
      show (w2.setCell _ _).heap[k]? = _
      rw [blk_set_other _ _ _ _ _ (fun e2 => by subst e2; rw [HFO.out] at hk; cases hk)]
      exact HG.out.block k (by have := HXS.out; show k < X.heap.size; omega) (fun e2 => by have := HBL.out k e2.symm; rw [hk] at this; cases this)
    obtain ⟨uv', w3, hr3, hu3, hg3, hb3⟩ := append_write _ _ f.uns hu2 ⟨s.writes, emp, a, t⟩ hul2
    obtain ⟨xa, xc, rfl, _⟩ := hu3.cells
    have hw3 := (hg3.block (g.fb i) (by show g.fb i < (w2.setCell _ _).heap.size; rw [size_set]; exact hfl2) (fun e => by have := HUL.out _ e.symm; rw [HFO.out] at this; cases this)).trans (show (w2.setCell ⟨g.fb i, 0, none⟩ (.slice va (app f.now ⟨s.writes, emp, a, t⟩).length vc)).heap[g.fb i]? = _ from blk_set HZ.out 0 _)
    have m2 := cell_blk hw3 2
    have m3 := frozen_blk hw3 2
    have HR3 := Lib.hid hr3
    have HU3 := Lib.hid hu3
    have HG3 := Lib.hid hg3
    have HB3 := Lib.hid hb3
    clear hr3 hu3 hg3 hb3 hu2 hwb hw3
    go_wp2
    have HR3' := HR3.out
    go_region_law (refine step_append_run rfl (.tmp 31) (.tmp 33) 119 119 rfl _ _ (by simp [Act.eval]) (by simp [Act.eval]) HR3' ?_)
  all_goals (try clear HR3'; try go_wp2)
  all_goals
    go_end0
    obtain ⟨own', r1, r2⟩ := change_fin HR.out HF.out hb HFO.out HBL.out HSL.out HUL.out HX1.out.1 HX1.out.2.1 HX1.out.2.2 HXS.out HXO.out HXP.out HXF.out HS.out HV.out ⟨HG.out.os, HG.out.tape, HG.out.output, HG.out.size, HG.out.block⟩ HB2.out HU3.out ⟨HG3.out.os, HG3.out.tape, HG3.out.output, HG3.out.size, HG3.out.block⟩ (HB3.out.imp id fun h k e => by have := h k e; rw [show (w2.setCell _ _).drew.heap.size = (w2.setCell _ _).heap.size from rfl, size_set] at this; exact this)
    have el : (f.uns ++ [(⟨s.writes, emp, a, t⟩ : Wr)]).length = f.uns.length + 1 := by simp
    rw [el] at r1 r2
    exact ⟨own', rfl, r1, r2⟩
end Go.Proofs.YtpkhghjmelgpeaaGreat.Wk
