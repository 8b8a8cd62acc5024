/- perform. -/
import Derived.Test.YtpkhghjmelgpeaaGreatW7
set_option linter.unusedVariables false
namespace Go.Proofs.YtpkhghjmelgpeaaGreat.Wk
open Go.ChangeShapes Go.WideShapes Go.ChangeAt Go.RowKit M

def Does (own : Own) (w : World) (p F : Nat) (caps : Array Value) (s : St) (d : Dd) (act : St → Ch → Dd → St × Dd) : Prop :=
  ∀ (own1 : Own) (w1 : World) (g1 : Gh) (db : Nat) (k n : Int) (t : ByteArray), s.ch.headD noCh = ⟨k, n, t⟩ → Rep own1 w1 p { s with ch := s.ch.tail } g1 → own1 db = none → w1.heap[db]? = some (.cells (ddcells d).toArray 82 (0, 0)) → Fr own w own1 w1 noE →
      Calls Tryz.prog F (#[.pointer (some ⟨db, 0, none⟩), .agg #[.int .u8 k, .int .i64 n, .string t]] ++ caps) w1 (Acts own1 w1 p { s with ch := s.ch.tail } g1 db d ⟨k, n, t⟩ act)

theorem perform_dead {s : St} {d : Dd} {act : St → Ch → Dd → St × Dd} (h : s.dead = true) : perform s d act = (s, deadD) := by unfold perform; rw [if_pos h]
theorem perform_crash {s : St} {d : Dd} {act : St → Ch → Dd → St × Dd} (h : s.dead = false) (hc : (s.ch.headD noCh).kind = 5) : perform s d act = ({ s with ch := s.ch.tail, dead := true }, deadD) := by
  unfold perform; rw [if_neg (by simp [h])]; simp only; rw [if_pos hc]
theorem perform_err {s : St} {d : Dd} {act : St → Ch → Dd → St × Dd} {e : Int} (h : s.dead = false) (hc : (s.ch.headD noCh).kind ≠ 5) (he : (if d.kind ≤ 8 then chosen (s.ch.headD noCh) 4 else 0) = e) (h0 : e ≠ 0) :
    perform s d act = ({ s with ch := s.ch.tail, told := s.told ++ [{ d with err := e }] }, { d with err := e }) := by
  unfold perform; rw [if_neg (by simp [h])]; simp only; rw [if_neg hc, he, if_pos h0]
theorem perform_act {s : St} {d : Dd} {act : St → Ch → Dd → St × Dd} (h : s.dead = false) (hc : (s.ch.headD noCh).kind ≠ 5) (he : (if d.kind ≤ 8 then chosen (s.ch.headD noCh) 4 else 0) = 0) :
    perform s d act = ({ (act { s with ch := s.ch.tail } (s.ch.headD noCh) d).1 with told := (act { s with ch := s.ch.tail } (s.ch.headD noCh) d).1.told ++ [(act { s with ch := s.ch.tail } (s.ch.headD noCh) d).2] }, (act { s with ch := s.ch.tail } (s.ch.headD noCh) d).2) := by
  unfold perform; rw [if_neg (by simp [h])]; simp only; rw [if_neg hc, he, if_neg (by simp)]

theorem alloc2_a (w : World) (a b : Obj) : ((w.alloc a).alloc b).heap[w.heap.size]? = some a := (Below.heap_alloc _ _ _ (by simp)).trans (heap_alloc_new w _)
theorem alloc2_b (w : World) (a b : Obj) : ((w.alloc a).alloc b).heap[w.heap.size + 1]? = some b := by have := heap_alloc_new (w.alloc a) b; simpa using this
theorem box6 {w : World} {b : Nat} {e : TypeId} {a0 a1 a2 a3 a4 a5 : Value} (h : w.heap[b]? = some (.cells #[a0, a1, a2, a3, a4, a5] e (0, 0))) : w.cell? ⟨b, 0, none⟩ = some a0 ∧ w.cell? ⟨b, 1, none⟩ = some a1 ∧ w.cell? ⟨b, 2, none⟩ = some a2 ∧ w.cell? ⟨b, 3, none⟩ = some a3 ∧ w.cell? ⟨b, 4, none⟩ = some a4 ∧ w.cell? ⟨b, 5, none⟩ = some a5 ∧ ∀ o, w.frozen? ⟨b, o, none⟩ = false :=
  ⟨cell_blk h 0, cell_blk h 1, cell_blk h 2, cell_blk h 3, cell_blk h 4, cell_blk h 5, frozen_blk h⟩
theorem owns_none {own : Own} {w : World} (h : Owns own w) {k : Nat} (hk : w.heap.size ≤ k) : own k = none := by
  cases e : own k with
  | none => rfl
  | some l => have := h k (by rw [e]; simp); omega
/-- A world that died: its own cells alone have changed. -/
theorem rep_dead {own : Own} {w : World} {p : Nat} {s : St} {g : Gh} (h : Rep own w p s g) : Rep own (w.setCell ⟨p, 2, none⟩ (.bool true)) p { s with dead := true } g ∧ Fr own w own (w.setCell ⟨p, 2, none⟩ (.bool true)) noE := by
  have hoth : ∀ k, k ≠ p → (w.setCell ⟨p, 2, none⟩ (.bool true)).heap[k]? = w.heap[k]? := fun k hk => blk_set_other _ _ _ _ _ hk
  constructor
  · refine h.top (cv := g.cv) (tv := g.tv) (s' := { s with dead := true }) (fun k hk => by rw [size_set]; exact h.owns k hk) (fun _ _ e => e) (fun k l e hl => hoth k (by intro e2; subst e2; rw [h.wown] at e; cases e; simp at hl)) rfl rfl (Wf.same h.wf rfl rfl rfl rfl) (blk_set h.wcell 2 _) ?_ ?_ h.town
    · exact h.chs.kept (fun _ _ e => e) fun k l e hl => by subst hl; exact hoth k (by intro e2; subst e2; rw [h.wown] at e; cases e)
    · exact h.trow.kept fun k hk => hoth k (by intro e2; subst e2; have := h.town k hk; rw [h.wown] at this; cases this)
  · exact ⟨rfl, rfl, rfl, by rw [size_set]; exact Nat.le_refl _, fun _ _ => rfl, fun k _ h1 _ => hoth k (by intro e; subst e; rw [h.wown] at h1; cases h1)⟩
/-- A change of blocks that bear no label. -/
theorem rep_free {own : Own} {w w' : World} {p : Nat} {s : St} {g : Gh} {ex : Nat → Prop} (h : Rep own w p s g) (os : w'.os = w.os) (tp : w'.tape = w.tape) (out : w'.output = w.output) (sz : w.heap.size ≤ w'.heap.size) (hx : ∀ k, ex k → own k = none) (hk : ∀ k, k < w.heap.size → ¬ ex k → w'.heap[k]? = w.heap[k]?) :
    Rep own w' p s g ∧ Fr own w own w' ex :=
  ⟨h.kept (fun k e => Nat.lt_of_lt_of_le (h.owns k e) sz) (fun _ _ e => e) (fun k l e _ => hk k (h.owns k (by rw [e]; simp)) (fun e2 => by rw [hx k e2] at e; cases e)), ⟨os, tp, out, sz, fun _ _ => rfl, fun k h1 _ h2 => hk k h1 h2⟩⟩
theorem box_set (w : World) (b : Nat) (o : Nat) (v : Value) (k : Nat) (hk : k ≠ b) : (w.setCell ⟨b, o, none⟩ v).heap[k]? = w.heap[k]? := blk_set_other _ _ _ _ _ hk

theorem set1_rep {own : Own} {w : World} {p : Nat} {s : St} {g : Gh} (h : Rep own w p s g) (b o : Nat) (hb : own b = none) (v : Value) :
    Rep own (w.setCell ⟨b, o, none⟩ v) p s g ∧ Fr own w own (w.setCell ⟨b, o, none⟩ v) (fun k => k = b) :=
  rep_free h rfl rfl rfl (by simp only [size_set]; exact Nat.le_refl _) (fun k e => by rw [e]; exact hb) (fun k _ hk => blk_set_other _ _ _ _ _ hk)
theorem set6_rep {own : Own} {w : World} {p : Nat} {s : St} {g : Gh} (h : Rep own w p s g) (b : Nat) (hb : own b = none) (a0 a1 a2 a3 a4 a5 : Value) :
    Rep own ((((((w.setCell ⟨b, 0, none⟩ a0).setCell ⟨b, 1, none⟩ a1).setCell ⟨b, 2, none⟩ a2).setCell ⟨b, 3, none⟩ a3).setCell ⟨b, 4, none⟩ a4).setCell ⟨b, 5, none⟩ a5) p s g ∧
    Fr own w own ((((((w.setCell ⟨b, 0, none⟩ a0).setCell ⟨b, 1, none⟩ a1).setCell ⟨b, 2, none⟩ a2).setCell ⟨b, 3, none⟩ a3).setCell ⟨b, 4, none⟩ a4).setCell ⟨b, 5, none⟩ a5) (fun k => k = b) := by
  obtain ⟨h1, k1⟩ := set1_rep h b 0 hb a0
  obtain ⟨h2, k2⟩ := set1_rep h1 b 1 hb a1
  obtain ⟨h3, k3⟩ := set1_rep h2 b 2 hb a2
  obtain ⟨h4, k4⟩ := set1_rep h3 b 3 hb a3
  obtain ⟨h5, k5⟩ := set1_rep h4 b 4 hb a4
  obtain ⟨h6, k6⟩ := set1_rep h5 b 5 hb a5
  exact ⟨h6, k1.trans (k2.trans (k3.trans (k4.trans (k5.trans k6))))⟩
theorem alloc_rep {own : Own} {w : World} {p : Nat} {s : St} {g : Gh} (h : Rep own w p s g) (o : Obj) : Rep own (w.alloc o) p s g ∧ Fr own w own (w.alloc o) noE :=
  ⟨h.below ((Below.refl _ _).alloc (Nat.le_refl _) o) (Nat.le_refl _), Fr.of_below ((Below.refl _ _).alloc (Nat.le_refl _) o) (Nat.le_refl _) _⟩
theorem grows_free {own : Own} {W w2 : World} {p : Nat} {s : St} {g : Gh} {d : Dd} {v' : Value} (h : Rep own W p s g) (hg : Grows own W p s g d v' w2) (k : Nat) (hk : k < W.heap.size) (hl : own k ≠ some .tr) : w2.heap[k]? = W.heap[k]? :=
  hg.2.1.block k hk (fun e => hl (h.town k e.symm))
def Late (w : World) (k : Nat) : Prop := w.heap.size ≤ k

theorem perform_tail {own own2 : Own} {w W w3 : World} {p : Nat} {s2 : St} {g2 : Gh} {d : Dd} {v' : Value} (hF : Fr own w own2 W (Late w)) (hR : Rep own2 W p s2 g2) (hn : own2 (w.heap.size + 1) = none) (hs : w.heap.size + 1 < W.heap.size) (hg : Grows own2 W.drew p s2 g2 d v' w3) (a0 a1 a2 a3 a4 a5 : Value) :
    ∃ own3, Rep own3 (((((((w3.setCell ⟨p, 3, none⟩ v').setCell ⟨w.heap.size + 1, 0, none⟩ a0).setCell ⟨w.heap.size + 1, 1, none⟩ a1).setCell ⟨w.heap.size + 1, 2, none⟩ a2).setCell ⟨w.heap.size + 1, 3, none⟩ a3).setCell ⟨w.heap.size + 1, 4, none⟩ a4).setCell ⟨w.heap.size + 1, 5, none⟩ a5) p { s2 with told := s2.told ++ [d] } { g2 with tv := v' } ∧
      Fr own w own3 (((((((w3.setCell ⟨p, 3, none⟩ v').setCell ⟨w.heap.size + 1, 0, none⟩ a0).setCell ⟨w.heap.size + 1, 1, none⟩ a1).setCell ⟨w.heap.size + 1, 2, none⟩ a2).setCell ⟨w.heap.size + 1, 3, none⟩ a3).setCell ⟨w.heap.size + 1, 4, none⟩ a4).setCell ⟨w.heap.size + 1, 5, none⟩ a5) noE := by
  have hRd : Rep own2 W.drew p s2 g2 := hR.kept hR.owns (fun _ _ e => e) (fun _ _ _ _ => rfl)
  obtain ⟨q1, q2⟩ := push_trace hRd d v' hg.1 hg.2.1 hg.2.2
  have hn3 : own2.newV v' .tr (w.heap.size + 1) = none := (q2.old _ (by show _ < W.heap.size; exact hs)).trans hn
  obtain ⟨q3, q4⟩ := set6_rep q1 (w.heap.size + 1) hn3 a0 a1 a2 a3 a4 a5
  have hFd : Fr own2 W own2 W.drew (Late w) := ⟨rfl, rfl, rfl, Nat.le_refl _, fun _ _ => rfl, fun _ _ _ _ => rfl⟩
  exact ⟨_, q3, Fr.drop (hF.trans (hFd.trans ((q2.weak _).trans (q4.mono fun k _ e => by subst e; exact Nat.le_succ _)))) (fun k e => e)⟩

set_option maxHeartbeats 4000000 in
set_option maxRecDepth 100000 in
theorem perform_any (own : Own) (w : World) (p : Nat) (s : St) (g : Gh) (h : Rep own w p s g) (dk dh : Int) (dt dto : ByteArray) (dn : Int) (F : Nat) (caps : Array Value) (act : St → Ch → Dd → St × Dd)
    (hent : ∀ (args : Array Value) (w : World), (callFunc F args).run Tryz.prog w = .ok (.enter F args) w) (hdo : Does own w p F caps s ⟨dk, dh, dt, dto, dn, 0⟩ act) (ht : s.told.length ≤ 1099511627776) (hta : (act { s with ch := s.ch.tail } (s.ch.headD noCh) ⟨dk, dh, dt, dto, dn, 0⟩).1.told = s.told) :
    Calls Tryz.prog 84 #[.pointer (some ⟨p, 0, none⟩), .agg #[.int .u8 dk, .int .i64 dh, .string dt, .string dto, .int .i64 dn, .int .i64 0], .func (.func F) #[] caps] w (Performs own w p s ⟨dk, dh, dt, dto, dn, 0⟩ act) := by
  have HR := Lib.hid h
  have HT := Lib.hid ht
  have HTA := Lib.hid hta
  have HDO := Lib.hid hdo
  clear ht hta hdo
  have c2 : w.cell? ⟨p, 2, none⟩ = some (.bool s.dead) := cell_blk h.wcell 2
  have hpl := blk_lt h.wcell
  cases hd : s.dead
  · rw [hd] at c2
    have HD := Lib.hid hd
    clear hd
    have hB0 : Below w.heap.size w ((w.alloc (.cells #[.int .u8 dk, .int .i64 dh, .string dt, .string dto, .int .i64 dn, .int .i64 0] 82)).alloc (.cells #[.int .u8 0, .int .i64 0, .string ⟨#[]⟩, .string ⟨#[]⟩, .int .i64 0, .int .i64 0] 82)) := ((Below.refl _ _).alloc (Nat.le_refl _) _).alloc (by simp) _
    have hN := next_any own _ p s g (h.below hB0 (Nat.le_refl _))
    have HB0 := Lib.hid hB0
    have HN := Lib.hid hN
    clear hN hB0 h
    have HCC : Hid (∃ k n t, s.ch.headD noCh = ⟨k, n, t⟩) := Lib.hid ⟨_, _, _, rfl⟩
    go_enter Tryz.func84, Tryz.ntmps84
    go_wp2_with fail
    refine HN.out.mono ?_
    rintro e w1 ⟨cv, rfl, hR1, hF1⟩
    clear HN
    obtain ⟨k, n, t, hc⟩ := HCC.out
    rw [hc]
    have e0 : (chcells ⟨k, n, t⟩).toArray = #[.int .u8 k, .int .i64 n, .string t] := rfl
    rw [e0]
    clear HCC e0
    have hsz0 : w.heap.size + 1 < w1.heap.size := by have := hF1.size; simp at this; omega
    have hbd : w1.heap[w.heap.size]? = some (.cells #[.int .u8 dk, .int .i64 dh, .string dt, .string dto, .int .i64 dn, .int .i64 0] 82 (0, 0)) := (hF1.kept _ (by simp; omega) (owns_none HR.out.owns (Nat.le_refl _)) (fun e => e)).trans (alloc2_a w _ _)
    have hbr : w1.heap[w.heap.size + 1]? = some (.cells #[.int .u8 0, .int .i64 0, .string ⟨#[]⟩, .string ⟨#[]⟩, .int .i64 0, .int .i64 0] 82 (0, 0)) := (hF1.kept _ (by simp) (owns_none HR.out.owns (by omega)) (fun e => e)).trans (alloc2_b w _ _)
    have c2 : w1.cell? ⟨p, 2, none⟩ = some (.bool s.dead) := cell_blk hR1.wcell 2
    have f2 := frozen_blk hR1.wcell 2
    rw [show s.dead = false from HD.out] at c2
    obtain ⟨r0, r1, r2, r3, r4, r5, rf⟩ := box6 hbr
    have hpl1 : p < w1.heap.size := by omega
    have hbl0 : w.heap.size < w1.heap.size := by omega
    have hpb : p ≠ w.heap.size + 1 := by omega
    have HBR := Lib.hid hbr
    clear hbr
    have HC := Lib.hid hc
    have HR1 := Lib.hid hR1
    have HF1 := Lib.hid hF1
    clear hc hR1 hF1
    by_cases hk : k = 5
    · subst hk
      have HBD := Lib.hid hbd
      clear hbd
      go_wp2
      refine bodyPost_ret (v := .agg #[.int .u8 0, .int .i64 0, .string ⟨#[]⟩, .string ⟨#[]⟩, .int .i64 0, .int .i64 36]) (by simp [results, Tryz.results84, go_sem, r0, r1, r2, r3, r4, r5, hsz0]) rfl ?_
      obtain ⟨q1, q2⟩ := rep_dead HR1.out
      obtain ⟨q3, q4⟩ := set6_rep q1 (w.heap.size + 1) (owns_none HR.out.owns (by omega)) (.int .u8 0) (.int .i64 0) (.string ⟨#[]⟩) (.string ⟨#[]⟩) (.int .i64 0) (.int .i64 36)
      obtain ⟨q5, q6⟩ := alloc_rep q3 (.cells #[.int .u8 5, .int .i64 n, .string t] 63)
      have hp := perform_crash (s := s) (d := ⟨dk, dh, dt, dto, dn, 0⟩) (act := act) HD.out (by rw [HC.out])
      refine ⟨own, _, by rw [hp]; rfl, by rw [hp]; exact q5, ?_⟩
      exact Fr.drop (((Fr.of_below HB0.out (Nat.le_refl _) (Late w)).trans (HF1.out.weak _)).trans ((q2.weak _).trans ((q4.mono fun k _ e => by subst e; exact Nat.le_succ _).trans (q6.weak _)))) (fun k e => e)
    · have hkb : (k == 5) = false := by simpa using hk
      have hcv := HR1.out.wcell
      have hR1b := (alloc_rep HR1.out (.cells #[.int .u8 k, .int .i64 n, .string t] 63)).1
      have HR1B := Lib.hid hR1b
      have HBD := Lib.hid hbd
      have dk0 : w1.cell? ⟨w.heap.size, 0, none⟩ = some (.int .u8 dk) := cell_blk hbd 0
      clear hcv hR1b hbd
      by_cases hdk : dk ≤ 8
      · have hch := chosen_any k n 4 t (w1.alloc (.cells #[.int .u8 k, .int .i64 n, .string t] 63))
        have HCH := Lib.hid hch
        clear hch
        obtain ⟨er, her⟩ : ∃ er, er = M.chosen ⟨k, n, t⟩ 4 := ⟨_, rfl⟩
        rw [← her] at HCH
        by_cases he0 : er = 0
        · have HER : Hid ((if dk ≤ 8 then M.chosen ⟨k, n, t⟩ 4 else 0) = 0) := Lib.hid (by rw [if_pos hdk, ← her, he0])
          rw [he0] at HCH
          clear her he0
          go_wp2_with fail
          refine HCH.out.mono ?_
          rintro e w2 ⟨rfl, hb2⟩
          have hsz2 : w1.heap.size < w2.heap.size := by have := hb2.size; simp at this; omega
          have hbd2 : w2.heap[w.heap.size]? = some (.cells #[.int .u8 dk, .int .i64 dh, .string dt, .string dto, .int .i64 dn, .int .i64 0] 82 (0, 0)) := (hb2.block _ (by simp; omega)).trans ((Below.heap_alloc _ _ _ (by omega)).trans HBD.out)
          have hbr2 : w2.heap[w.heap.size + 1]? = some (.cells #[.int .u8 0, .int .i64 0, .string ⟨#[]⟩, .string ⟨#[]⟩, .int .i64 0, .int .i64 0] 82 (0, 0)) := (hb2.block _ (by simp; omega)).trans ((Below.heap_alloc _ _ _ (by omega)).trans HBR.out)
          have hc2 : w2.heap[w1.heap.size]? = some (.cells #[.int .u8 k, .int .i64 n, .string t] 63 (0, 0)) := (hb2.block _ (by simp)).trans (heap_alloc_new w1 _)
          have g0 : w2.cell? ⟨w1.heap.size, 0, none⟩ = some (.int .u8 k) := cell_blk hc2 0
          have g1 : w2.cell? ⟨w1.heap.size, 1, none⟩ = some (.int .i64 n) := cell_blk hc2 1
          have g2 : w2.cell? ⟨w1.heap.size, 2, none⟩ = some (.string t) := cell_blk hc2 2
          obtain ⟨d0, d1, d2, d3, d4, d5, df⟩ := box6 hbd2
          have hR2 := HR1B.out.below hb2 (Nat.le_refl _)
          obtain ⟨q1, q2⟩ := set1_rep hR2 w.heap.size 5 (owns_none HR.out.owns (Nat.le_refl _)) (.int .i64 0)
          have hFW : Fr own w own (w2.setCell ⟨w.heap.size, 5, none⟩ (.int .i64 0)) noE := Fr.drop ((((Fr.of_below HB0.out (Nat.le_refl _) (Late w)).trans (HF1.out.weak _)).trans ((alloc_rep HR1.out _).2.weak _)).trans ((Fr.of_below hb2 (Nat.le_refl _) _).trans (q2.mono fun k _ e => by subst e; exact Nat.le_refl _))) (fun k e => e)
          have hbd3 : (w2.setCell ⟨w.heap.size, 5, none⟩ (.int .i64 0)).heap[w.heap.size]? = some (.cells (ddcells ⟨dk, dh, dt, dto, dn, 0⟩).toArray 82 (0, 0)) := blk_set hbd2 5 _
          have hbr3 : (w2.setCell ⟨w.heap.size, 5, none⟩ (.int .i64 0)).heap[w.heap.size + 1]? = some (.cells #[.int .u8 0, .int .i64 0, .string ⟨#[]⟩, .string ⟨#[]⟩, .int .i64 0, .int .i64 0] 82 (0, 0)) := (blk_set_other _ _ _ _ _ (by omega)).trans hbr2
          have HCALL := Lib.hid (HDO.out own (w2.setCell ⟨w.heap.size, 5, none⟩ (.int .i64 0)) _ w.heap.size k n t HC.out q1 (owns_none HR.out.owns (Nat.le_refl _)) hbd3 hFW)
          have hWsz : w.heap.size + 1 < (w2.setCell ⟨w.heap.size, 5, none⟩ (.int .i64 0)).heap.size := by rw [size_set]; omega
          obtain ⟨W, hW⟩ : ∃ W, W = w2.setCell ⟨w.heap.size, 5, none⟩ (.int .i64 0) := ⟨_, rfl⟩
          have HBW := Lib.hid hbr3
          have HFW := Lib.hid hFW
          have hpl3 : w.heap.size < w2.heap.size := by omega
          have hne3 : w1.heap.size ≠ w.heap.size := by omega
          clear hbd2 hbr2 hc2 hR2 q1 q2 hFW hbd3 hbr3 hb2 c2 f2 r0 r1 r2 r3 r4 r5 rf
          rw [← hW] at HCALL hWsz HBW HFW
          have HW := Lib.hid hW
          clear hW
          go_wp2_with fail
          rw [← HW.out]
          refine HCALL.out.mono ?_
          rintro e w4 ⟨own4, g4, rfl, hR4, hbx4, hF4⟩
          clear g0 g1 g2 d0 d1 d2 d3 d4 d5 df
          have hsz4 : W.heap.size ≤ w4.heap.size := hF4.size
          have hw40 : own4 w.heap.size = none := (hF4.old _ (by omega)).trans (owns_none HR.out.owns (Nat.le_refl _))
          have hw41 : own4 (w.heap.size + 1) = none := (hF4.old _ (by omega)).trans (owns_none HR.out.owns (by omega))
          have hbr4 : w4.heap[w.heap.size + 1]? = some (.cells #[.int .u8 0, .int .i64 0, .string ⟨#[]⟩, .string ⟨#[]⟩, .int .i64 0, .int .i64 0] 82 (0, 0)) := (hF4.kept _ (by omega) (owns_none HR.out.owns (by omega)) (by omega)).trans HBW.out
          have hta4 : (act { s with ch := s.ch.tail } ⟨k, n, t⟩ ⟨dk, dh, dt, dto, dn, 0⟩).1.told = s.told := by have := HTA.out; rw [HC.out] at this; exact this
          have HA : Hid (perform s ⟨dk, dh, dt, dto, dn, 0⟩ act = ({ (act { s with ch := s.ch.tail } ⟨k, n, t⟩ ⟨dk, dh, dt, dto, dn, 0⟩).1 with told := (act { s with ch := s.ch.tail } ⟨k, n, t⟩ ⟨dk, dh, dt, dto, dn, 0⟩).1.told ++ [(act { s with ch := s.ch.tail } ⟨k, n, t⟩ ⟨dk, dh, dt, dto, dn, 0⟩).2] }, (act { s with ch := s.ch.tail } ⟨k, n, t⟩ ⟨dk, dh, dt, dto, dn, 0⟩).2)) := Lib.hid (by
            have := perform_act (s := s) (d := ⟨dk, dh, dt, dto, dn, 0⟩) (act := act) HD.out (by rw [HC.out]; exact hk) (by rw [HC.out]; exact HER.out)
            rw [HC.out] at this; exact this)
          generalize act { s with ch := s.ch.tail } ⟨k, n, t⟩ ⟨dk, dh, dt, dto, dn, 0⟩ = r at *
          obtain ⟨s4, a0, a1, a2, a3, a4, a5⟩ := r
          have ht4 : s4.told.length ≤ 1099511627776 := by rw [hta4]; exact HT.out
          obtain ⟨q1, q2⟩ := set1_rep hR4 w.heap.size 5 hw40 (.int .i64 a5)
          have q1d : Rep own4 (w4.setCell ⟨w.heap.size, 5, none⟩ (.int .i64 a5)).drew p _ _ := q1.kept q1.owns (fun _ _ e => e) (fun _ _ _ _ => rfl)
          obtain ⟨tv, w3, hr3, hg3⟩ := append_trace q1d ⟨a0, a1, a2, a3, a4, a5⟩ ht4
          obtain ⟨va, vc, rfl, _⟩ := hg3.1.cells
          have c3 : w4.cell? ⟨p, 3, none⟩ = some g4.tv := cell_blk hR4.wcell 3
          have hp0 : p ≠ w.heap.size := by omega
          have hpl2 : p < w4.heap.size := by omega
          have hbl2 : w.heap.size < w4.heap.size := by omega
          have hp3 : w3.heap[p]? = _ := (grows_free q1d hg3 p (by show p < (w4.setCell _ _).heap.size; rw [size_set]; omega) (by rw [hR4.wown]; simp)).trans ((blk_set_other _ _ _ _ _ hp0).trans hR4.wcell)
          have hb3 : w3.heap[w.heap.size]? = some (.cells #[.int .u8 a0, .int .i64 a1, .string a2, .string a3, .int .i64 a4, .int .i64 a5] 82 (0, 0)) := (grows_free q1d hg3 _ (by show w.heap.size < (w4.setCell _ _).heap.size; rw [size_set]; omega) (by rw [hw40]; simp)).trans (blk_set hbx4 5 _)
          have hr3b : w3.heap[w.heap.size + 1]? = some (.cells #[.int .u8 0, .int .i64 0, .string ⟨#[]⟩, .string ⟨#[]⟩, .int .i64 0, .int .i64 0] 82 (0, 0)) := (grows_free q1d hg3 _ (by show w.heap.size + 1 < (w4.setCell _ _).heap.size; rw [size_set]; omega) (by rw [hw41]; simp)).trans ((blk_set_other _ _ _ _ _ (by omega)).trans hbr4)
          have t3 : w3.cell? ⟨p, 3, none⟩ = some g4.tv := cell_blk hp3 3
          have tf3 : w3.frozen? ⟨p, 3, none⟩ = false := frozen_blk hp3 3
          obtain ⟨x0, x1, x2, x3, x4, x5, xf⟩ := box6 hb3
          obtain ⟨y0, y1, y2, y3, y4, y5, yf⟩ := box6 hr3b
          obtain ⟨z0, z1, z2, z3, z4, z5, zf⟩ := box6 (show w4.heap[w.heap.size]? = some (.cells #[.int .u8 a0, .int .i64 a1, .string a2, .string a3, .int .i64 a4, .int .i64 0] 82 (0, 0)) from hbx4)
          have HR3 := Lib.hid hr3
          have HG3 := Lib.hid hg3
          have HQ := Lib.hid q1
          have HQ2 := Lib.hid q2
          have HF4 := Lib.hid hF4
          have HW41 := Lib.hid hw41
          obtain ⟨ta, tn, tc, htv⟩ : ∃ a n c, g4.tv = .slice a n c := by obtain ⟨a, c, hv, _⟩ := hR4.trow.rd; exact ⟨_, _, _, hv⟩
          rw [htv] at c3 HR3 t3
          clear hp3 hb3 hr3b hw40 hw41 hr3 hg3 q1 q2 q1d hR4 hbx4 hbr4 htv hta4 hF4 ht4
          go_wp2
          have HR3' := HR3.out
          go_region_law (refine step_append_run rfl (.tmp 39) (.tmp 41) 58 58 rfl _ _ (by simp [Act.eval]) (by simp [Act.eval]) HR3' ?_)
          all_goals (clear HR3'; go_wp2)
          all_goals
            refine bodyPost_ret (v := .agg #[.int .u8 a0, .int .i64 a1, .string a2, .string a3, .int .i64 a4, .int .i64 a5]) (by simp [results, Tryz.results84, go_sem, y0, y1, y2, y3, y4, y5]) rfl ?_
            obtain ⟨own3, z1, z2⟩ := perform_tail ((HFW.out.weak (Late w)).trans ((HF4.out.mono fun k _ e => by subst e; exact Nat.le_refl _).trans (HQ2.out.mono fun k _ e => by subst e; exact Nat.le_refl _))) HQ.out HW41.out (by rw [size_set]; omega) HG3.out (.int .u8 a0) (.int .i64 a1) (.string a2) (.string a3) (.int .i64 a4) (.int .i64 a5)
            exact ⟨own3, _, by rw [HA.out]; rfl, by rw [HA.out]; exact z1, z2⟩
        · have heb : (er == 0) = false := by simpa using he0
          have HER := Lib.hid her
          clear her
          go_wp2_with fail
          refine HCH.out.mono ?_
          rintro e w2 ⟨rfl, hb2⟩
          have hsz2 : w1.heap.size < w2.heap.size := by have := hb2.size; simp at this; omega
          have hbd2 : w2.heap[w.heap.size]? = some (.cells #[.int .u8 dk, .int .i64 dh, .string dt, .string dto, .int .i64 dn, .int .i64 0] 82 (0, 0)) := (hb2.block _ (by simp; omega)).trans ((Below.heap_alloc _ _ _ (by omega)).trans HBD.out)
          have hbr2 : w2.heap[w.heap.size + 1]? = some (.cells #[.int .u8 0, .int .i64 0, .string ⟨#[]⟩, .string ⟨#[]⟩, .int .i64 0, .int .i64 0] 82 (0, 0)) := (hb2.block _ (by simp; omega)).trans ((Below.heap_alloc _ _ _ (by omega)).trans HBR.out)
          obtain ⟨d0, d1, d2, d3, d4, d5, df⟩ := box6 hbd2
          have hR2 := HR1B.out.below hb2 (Nat.le_refl _)
          obtain ⟨q1, q2⟩ := set1_rep hR2 w.heap.size 5 (owns_none HR.out.owns (Nat.le_refl _)) (.int .i64 er)
          have q1d : Rep own (w2.setCell ⟨w.heap.size, 5, none⟩ (.int .i64 er)).drew p _ _ := q1.kept q1.owns (fun _ _ e => e) (fun _ _ _ _ => rfl)
          obtain ⟨tv, w3, hr3, hg3⟩ := append_trace q1d ⟨dk, dh, dt, dto, dn, er⟩ HT.out
          obtain ⟨va, vc, rfl, _⟩ := hg3.1.cells
          have c3 : w2.cell? ⟨p, 3, none⟩ = some g.tv := cell_blk hR2.wcell 3
          have hp0 : p ≠ w.heap.size := by omega
          have hpl2 : p < w2.heap.size := by omega
          have hbl2 : w.heap.size < w2.heap.size := by omega
          have HR3 := Lib.hid hr3
          have HG3 := Lib.hid hg3
          have HQ := Lib.hid q1
          have HQ2 := Lib.hid q2
          have HB2 := Lib.hid hb2
          have hw0 : own w.heap.size = none := owns_none HR.out.owns (Nat.le_refl _)
          have hw1 : own (w.heap.size + 1) = none := owns_none HR.out.owns (by omega)
          have hp3 : w3.heap[p]? = _ := (grows_free q1d hg3 p (by show p < (w2.setCell _ _).heap.size; rw [size_set]; omega) (by rw [hR2.wown]; simp)).trans ((blk_set_other _ _ _ _ _ hp0).trans hR2.wcell)
          have hb3 : w3.heap[w.heap.size]? = some (.cells #[.int .u8 dk, .int .i64 dh, .string dt, .string dto, .int .i64 dn, .int .i64 er] 82 (0, 0)) := (grows_free q1d hg3 _ (by show w.heap.size < (w2.setCell _ _).heap.size; rw [size_set]; omega) (by rw [hw0]; simp)).trans (blk_set hbd2 5 _)
          have hr3b : w3.heap[w.heap.size + 1]? = some (.cells #[.int .u8 0, .int .i64 0, .string ⟨#[]⟩, .string ⟨#[]⟩, .int .i64 0, .int .i64 0] 82 (0, 0)) := (grows_free q1d hg3 _ (by show w.heap.size + 1 < (w2.setCell _ _).heap.size; rw [size_set]; omega) (by rw [hw1]; simp)).trans ((blk_set_other _ _ _ _ _ (by omega)).trans hbr2)
          have t3 : w3.cell? ⟨p, 3, none⟩ = some g.tv := cell_blk hp3 3
          have tf3 : w3.frozen? ⟨p, 3, none⟩ = false := frozen_blk hp3 3
          obtain ⟨x0, x1, x2, x3, x4, x5, xf⟩ := box6 hb3
          obtain ⟨y0, y1, y2, y3, y4, y5, yf⟩ := box6 hr3b
          clear hp3 hb3 hr3b hw0 hw1
          clear hr3 hg3 q1 q2 q1d hR2 hbd2 hbr2 hb2 c2 f2 r0 r1 r2 r3 r4 r5 rf
          obtain ⟨ta, tn, tc, htv⟩ : ∃ a n c, g.tv = .slice a n c := by obtain ⟨a, c, hv, _⟩ := HR.out.trow.rd; exact ⟨_, _, _, hv⟩
          rw [htv] at c3 HR3
          go_wp2
          have HR3' := HR3.out
          go_region_law (refine step_append_run rfl (.tmp 39) (.tmp 41) 58 58 rfl _ _ (by simp [Act.eval]) (by simp [Act.eval]) HR3' ?_)
          all_goals (clear HR3'; go_wp2)
          all_goals
            refine bodyPost_ret (v := .agg #[.int .u8 dk, .int .i64 dh, .string dt, .string dto, .int .i64 dn, .int .i64 er]) (by simp [results, Tryz.results84, go_sem, y0, y1, y2, y3, y4, y5]) rfl ?_
            have hp := perform_err (s := s) (d := ⟨dk, dh, dt, dto, dn, 0⟩) (act := act) (e := er) HD.out (by rw [HC.out]; exact hk) (by rw [HC.out, if_pos hdk]; exact HER.out.symm) he0
            obtain ⟨own3, z1, z2⟩ := perform_tail ((((Fr.of_below HB0.out (Nat.le_refl _) (Late w)).trans (HF1.out.weak _)).trans ((alloc_rep HR1.out _).2.weak _)).trans ((Fr.of_below HB2.out (Nat.le_refl _) _).trans (HQ2.out.mono fun k _ e => by subst e; exact Nat.le_refl _))) HQ.out (owns_none HR.out.owns (by omega)) (by rw [size_set]; omega) HG3.out (.int .u8 dk) (.int .i64 dh) (.string dt) (.string dto) (.int .i64 dn) (.int .i64 er)
            exact ⟨own3, _, by rw [hp]; rfl, by rw [hp]; exact z1, z2⟩
      · have HER : Hid ((if dk ≤ 8 then M.chosen ⟨k, n, t⟩ 4 else 0) = 0) := Lib.hid (by rw [if_neg hdk])
        have hR2 := HR1B.out
        have hFW : Fr own w own (w1.alloc (.cells #[.int .u8 k, .int .i64 n, .string t] 63)) noE := ((Fr.of_below HB0.out (Nat.le_refl _) noE).trans HF1.out).trans (alloc_rep HR1.out _).2
        have hbd3 : (w1.alloc (.cells #[.int .u8 k, .int .i64 n, .string t] 63)).heap[w.heap.size]? = some (.cells (ddcells ⟨dk, dh, dt, dto, dn, 0⟩).toArray 82 (0, 0)) := (Below.heap_alloc _ _ _ (by omega)).trans HBD.out
        have hbr3 : (w1.alloc (.cells #[.int .u8 k, .int .i64 n, .string t] 63)).heap[w.heap.size + 1]? = some (.cells #[.int .u8 0, .int .i64 0, .string ⟨#[]⟩, .string ⟨#[]⟩, .int .i64 0, .int .i64 0] 82 (0, 0)) := (Below.heap_alloc _ _ _ (by omega)).trans HBR.out
        have HCALL := Lib.hid (HDO.out own (w1.alloc (.cells #[.int .u8 k, .int .i64 n, .string t] 63)) _ w.heap.size k n t HC.out hR2 (owns_none HR.out.owns (Nat.le_refl _)) hbd3 hFW)
        have hWsz : w.heap.size + 1 < (w1.alloc (.cells #[.int .u8 k, .int .i64 n, .string t] 63)).heap.size := by simp; omega
        obtain ⟨W, hW⟩ : ∃ W, W = w1.alloc (.cells #[.int .u8 k, .int .i64 n, .string t] 63) := ⟨_, rfl⟩
        have HBW := Lib.hid hbr3
        have HFW := Lib.hid hFW
        have dk5 : w1.cell? ⟨w.heap.size, 5, none⟩ = some (.int .i64 0) := cell_blk HBD.out 5
        clear hR2 hFW hbd3 hbr3 c2 f2 r0 r1 r2 r3 r4 r5 rf
        rw [← hW] at HCALL hWsz HBW HFW
        have HW := Lib.hid hW
        clear hW
        go_wp2_with fail
        rw [← HW.out]
        refine HCALL.out.mono ?_
        rintro e w4 ⟨own4, g4, rfl, hR4, hbx4, hF4⟩
        clear dk5 dk0
        have hsz4 : W.heap.size ≤ w4.heap.size := hF4.size
        have hw40 : own4 w.heap.size = none := (hF4.old _ (by omega)).trans (owns_none HR.out.owns (Nat.le_refl _))
        have hw41 : own4 (w.heap.size + 1) = none := (hF4.old _ (by omega)).trans (owns_none HR.out.owns (by omega))
        have hbr4 : w4.heap[w.heap.size + 1]? = some (.cells #[.int .u8 0, .int .i64 0, .string ⟨#[]⟩, .string ⟨#[]⟩, .int .i64 0, .int .i64 0] 82 (0, 0)) := (hF4.kept _ (by omega) (owns_none HR.out.owns (by omega)) (by omega)).trans HBW.out
        have hta4 : (act { s with ch := s.ch.tail } ⟨k, n, t⟩ ⟨dk, dh, dt, dto, dn, 0⟩).1.told = s.told := by have := HTA.out; rw [HC.out] at this; exact this
        have HA : Hid (perform s ⟨dk, dh, dt, dto, dn, 0⟩ act = ({ (act { s with ch := s.ch.tail } ⟨k, n, t⟩ ⟨dk, dh, dt, dto, dn, 0⟩).1 with told := (act { s with ch := s.ch.tail } ⟨k, n, t⟩ ⟨dk, dh, dt, dto, dn, 0⟩).1.told ++ [(act { s with ch := s.ch.tail } ⟨k, n, t⟩ ⟨dk, dh, dt, dto, dn, 0⟩).2] }, (act { s with ch := s.ch.tail } ⟨k, n, t⟩ ⟨dk, dh, dt, dto, dn, 0⟩).2)) := Lib.hid (by
          have := perform_act (s := s) (d := ⟨dk, dh, dt, dto, dn, 0⟩) (act := act) HD.out (by rw [HC.out]; exact hk) (by rw [HC.out]; exact HER.out)
          rw [HC.out] at this; exact this)
        generalize act { s with ch := s.ch.tail } ⟨k, n, t⟩ ⟨dk, dh, dt, dto, dn, 0⟩ = r at *
        obtain ⟨s4, a0, a1, a2, a3, a4, a5⟩ := r
        have ht4 : s4.told.length ≤ 1099511627776 := by rw [hta4]; exact HT.out
        obtain ⟨q1, q2⟩ := set1_rep hR4 w.heap.size 5 hw40 (.int .i64 a5)
        have q1d : Rep own4 (w4.setCell ⟨w.heap.size, 5, none⟩ (.int .i64 a5)).drew p _ _ := q1.kept q1.owns (fun _ _ e => e) (fun _ _ _ _ => rfl)
        obtain ⟨tv, w3, hr3, hg3⟩ := append_trace q1d ⟨a0, a1, a2, a3, a4, a5⟩ ht4
        obtain ⟨va, vc, rfl, _⟩ := hg3.1.cells
        have c3 : w4.cell? ⟨p, 3, none⟩ = some g4.tv := cell_blk hR4.wcell 3
        have hp0 : p ≠ w.heap.size := by omega
        have hpl2 : p < w4.heap.size := by omega
        have hbl2 : w.heap.size < w4.heap.size := by omega
        have hp3 : w3.heap[p]? = _ := (grows_free q1d hg3 p (by show p < (w4.setCell _ _).heap.size; rw [size_set]; omega) (by rw [hR4.wown]; simp)).trans ((blk_set_other _ _ _ _ _ hp0).trans hR4.wcell)
        have hb3 : w3.heap[w.heap.size]? = some (.cells #[.int .u8 a0, .int .i64 a1, .string a2, .string a3, .int .i64 a4, .int .i64 a5] 82 (0, 0)) := (grows_free q1d hg3 _ (by show w.heap.size < (w4.setCell _ _).heap.size; rw [size_set]; omega) (by rw [hw40]; simp)).trans (blk_set hbx4 5 _)
        have hr3b : w3.heap[w.heap.size + 1]? = some (.cells #[.int .u8 0, .int .i64 0, .string ⟨#[]⟩, .string ⟨#[]⟩, .int .i64 0, .int .i64 0] 82 (0, 0)) := (grows_free q1d hg3 _ (by show w.heap.size + 1 < (w4.setCell _ _).heap.size; rw [size_set]; omega) (by rw [hw41]; simp)).trans ((blk_set_other _ _ _ _ _ (by omega)).trans hbr4)
        have t3 : w3.cell? ⟨p, 3, none⟩ = some g4.tv := cell_blk hp3 3
        have tf3 : w3.frozen? ⟨p, 3, none⟩ = false := frozen_blk hp3 3
        obtain ⟨x0, x1, x2, x3, x4, x5, xf⟩ := box6 hb3
        obtain ⟨y0, y1, y2, y3, y4, y5, yf⟩ := box6 hr3b
        obtain ⟨z0, z1, z2, z3, z4, z5, zf⟩ := box6 (show w4.heap[w.heap.size]? = some (.cells #[.int .u8 a0, .int .i64 a1, .string a2, .string a3, .int .i64 a4, .int .i64 0] 82 (0, 0)) from hbx4)
        have HR3 := Lib.hid hr3
        have HG3 := Lib.hid hg3
        have HQ := Lib.hid q1
        have HQ2 := Lib.hid q2
        have HF4 := Lib.hid hF4
        have HW41 := Lib.hid hw41
        obtain ⟨ta, tn, tc, htv⟩ : ∃ a n c, g4.tv = .slice a n c := by obtain ⟨a, c, hv, _⟩ := hR4.trow.rd; exact ⟨_, _, _, hv⟩
        rw [htv] at c3 HR3 t3
        clear hp3 hb3 hr3b hw40 hw41 hr3 hg3 q1 q2 q1d hR4 hbx4 hbr4 htv hta4 hF4 ht4
        go_wp2
        have HR3' := HR3.out
        go_region_law (refine step_append_run rfl (.tmp 39) (.tmp 41) 58 58 rfl _ _ (by simp [Act.eval]) (by simp [Act.eval]) HR3' ?_)
        all_goals (clear HR3'; go_wp2)
        all_goals
          refine bodyPost_ret (v := .agg #[.int .u8 a0, .int .i64 a1, .string a2, .string a3, .int .i64 a4, .int .i64 a5]) (by simp [results, Tryz.results84, go_sem, y0, y1, y2, y3, y4, y5]) rfl ?_
          obtain ⟨own3, z1, z2⟩ := perform_tail ((HFW.out.weak (Late w)).trans ((HF4.out.mono fun k _ e => by subst e; exact Nat.le_refl _).trans (HQ2.out.mono fun k _ e => by subst e; exact Nat.le_refl _))) HQ.out HW41.out (by rw [size_set]; omega) HG3.out (.int .u8 a0) (.int .i64 a1) (.string a2) (.string a3) (.int .i64 a4) (.int .i64 a5)
          exact ⟨own3, _, by rw [HA.out]; rfl, by rw [HA.out]; exact z1, z2⟩
  · rw [hd] at c2
    have HD := Lib.hid hd
    clear hd h
    go_enter Tryz.func84, Tryz.ntmps84
    go_wp2
    refine bodyPost_ret (v := .agg #[.int .u8 0, .int .i64 0, .string ⟨#[]⟩, .string ⟨#[]⟩, .int .i64 0, .int .i64 36]) (by simp [results, Tryz.results84, go_sem]) rfl ?_
    have hB := (((Below.refl _ w).alloc (Nat.le_refl _) (.cells #[.int .u8 dk, .int .i64 dh, .string dt, .string dto, .int .i64 dn, .int .i64 0] 82)).alloc (by simp) (.cells #[.int .u8 0, .int .i64 0, .string ⟨#[]⟩, .string ⟨#[]⟩, .int .i64 0, .int .i64 36] 82))
    refine ⟨own, g, ?_, ?_, Fr.of_below hB (Nat.le_refl _) _⟩
    · rw [perform_dead HD.out]; rfl
    · rw [perform_dead HD.out]; exact HR.out.below hB (Nat.le_refl _)
end Go.Proofs.YtpkhghjmelgpeaaGreat.Wk
