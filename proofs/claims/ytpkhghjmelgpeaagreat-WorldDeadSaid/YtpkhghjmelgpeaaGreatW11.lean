/- Read. -/
import Derived.Test.YtpkhghjmelgpeaaGreatQ
import Derived.Deep.RegionWith
set_option linter.unusedVariables false
namespace Go.Proofs.YtpkhghjmelgpeaaGreat.Wk
open Go.ChangeShapes Go.WideShapes Go.ChangeAt Go.RowKit M

/-- What a handle of a file that is open is in memory. -/
theorem hand_cells {own : Own} {w : World} {p : Nat} {s : St} {g : Gh} (h : Rep own w p s g) {n : Int} {i a : Nat} {m : Int} (hh : hdOf s.hs n = .file false i m a) :
    ∃ f av n1 c sv uv, s.fs[i]? = some f ∧ w.heap[g.hb (n.toNat - 1)]? = some (.cells #[.bool false, .pointer (some ⟨g.fb i, 0, none⟩), .int .i64 m, .int .i64 a] 144 (0, 0)) ∧ own (g.hb (n.toNat - 1)) = some (.h (n.toNat - 1)) ∧
      w.heap[g.fb i]? = some (.cells #[.slice av n1 c, sv, uv] 121 (0, 0)) ∧ own (g.fb i) = some (.f i 0) ∧ n1 = f.now.length ∧ Row w 5 1 (.slice av n1 c) n1 (bcells f.now) ∧ a ≤ 4194304 ∧ f.now.length ≤ 4194304 := by
  obtain ⟨hn1, hget⟩ := hdOf_get hh (by simp)
  obtain ⟨ho, fp, hb, hfp⟩ := h.hands _ _ hget
  obtain ⟨hi, _, ha⟩ := h.wf.hs false i m a (List.mem_of_getElem? hget)
  obtain ⟨f, hf⟩ : ∃ f, s.fs[i]? = some f := ⟨s.fs[i], List.getElem?_eq_getElem hi⟩
  obtain ⟨hfo, bv, sv, uv, h1, h2, _⟩ := h.files i f hf
  obtain ⟨av, c, rfl, _⟩ := h2.cells
  rw [hfp rfl] at hb
  exact ⟨f, av, _, c, sv, uv, hf, hb, ho, h1, hfo, rfl, h2, ha, (h.wf.len f (List.mem_of_getElem? hf)).1⟩
theorem box4 {w : World} {b : Nat} {e : TypeId} {a0 a1 a2 a3 : Value} (h : w.heap[b]? = some (.cells #[a0, a1, a2, a3] e (0, 0))) : w.cell? ⟨b, 0, none⟩ = some a0 ∧ w.cell? ⟨b, 1, none⟩ = some a1 ∧ w.cell? ⟨b, 2, none⟩ = some a2 ∧ w.cell? ⟨b, 3, none⟩ = some a3 ∧ ∀ o, w.frozen? ⟨b, o, none⟩ = false :=
  ⟨cell_blk h 0, cell_blk h 1, cell_blk h 2, cell_blk h 3, frozen_blk h⟩
theorem nowOf_get {fs : List Fs} {i : Nat} {f : Fs} (h : fs[i]? = some f) : nowOf fs i = f.now := by unfold nowOf; rw [h]
theorem wf_i64 {n : Int} (h : (Lit.int .i64 n).wf = true) : -9223372036854775808 ≤ n ∧ n ≤ 9223372036854775807 := by
  exact bounds_i64 h

set_option maxHeartbeats 4000000 in
set_option maxRecDepth 100000 in
theorem Read1_does (own : Own) (w : World) (p : Nat) (s : St) (dh : Int) (n : Int) (nb : Nat) (hnb : w.heap[nb]? = some (.cells #[.int .i64 n] 3 (0, 0))) (hno : own nb = none) (hn : (Lit.int .i64 n).wf = true) :
    DoesF own w p 94 #[.pointer (some ⟨nb, 0, none⟩)] s ⟨2, dh, noS, noS, n, 0⟩ (actRead n) := by
  intro own1 w1 g1 db i m a hh hR hdb hbox hF
  obtain ⟨f, av, n1, c, sv, uv, hf, hb, ho, hfb, hfo, hn1, hrow, ha, hlen⟩ := hand_cells hR hh
  simp only at hf hh
  obtain ⟨x0, x1, x2, x3, xf⟩ := box4 hb
  have y0 : w1.cell? ⟨g1.fb i, 0, none⟩ = some (.slice av n1 c) := cell_blk hfb 0
  have cn : w1.cell? ⟨nb, 0, none⟩ = some (.int .i64 n) := cell_blk ((hF.kept _ (blk_lt hnb) hno (fun e => e)).trans hnb) 0
  have hne : g1.hb (dh.toNat - 1) ≠ db := fun e => by rw [← e, ho] at hdb; cases hdb
  have HR := Lib.hid hR
  have HH := Lib.hid hh
  have HB := Lib.hid hbox
  have HN := nowOf_get hf
  obtain ⟨hl1, hl2⟩ := wf_i64 hn
  by_cases hm : m = 1
  · by_cases hneg : n < 0
    · have HA : Hid (actRead n { s with ch := s.ch.tail } ⟨2, dh, noS, noS, n, 0⟩ i m a = ({ s with ch := s.ch.tail }, ⟨2, dh, noS, noS, n, 1⟩)) := Lib.hid (by unfold actRead; rw [if_neg (by simpa using hm), if_pos hneg])
      clear hR hh hbox hb hfb hF hrow HN hf
      subst hm
      go_enter Tryz.func94, Tryz.ntmps94
      go_wp2
      go_ret
      exact ⟨own1, g1, by rw [HA.out]; rfl, by rw [HA.out]; exact HR.out, by rw [HA.out]; exact HB.out, Fr.refl _ _ _⟩
    · subst hm
      obtain ⟨q, rfl⟩ := Int.eq_ofNat_of_zero_le (show 0 ≤ n by omega)
      obtain ⟨t, ht⟩ : ∃ t, t = (f.now.drop a).take q := ⟨_, rfl⟩
      have HA : Hid (actRead (q : Int) { s with ch := s.ch.tail } ⟨2, dh, noS, noS, q, 0⟩ i 1 a = ({ s with ch := s.ch.tail, hs := setAt s.hs dh (.file false i 1 (a + (M.strOf t).size)) }, ⟨2, dh, M.strOf t, noS, q, 0⟩)) := Lib.hid (by
        have hz : (M.strOf t).size = t.length := by simp [M.strOf, ByteArray.size]
        unfold actRead; rw [if_neg (by simp), if_neg hneg]; simp only; rw [HN, hz, ht]; rfl)
      have hpc : ∀ w' : World, w'.heap = w1.heap → Calls Tryz.prog 95 #[.pointer (some ⟨g1.fb i, 0, none⟩), .int .i64 a, .int .i64 q] w' fun e w'' => e = .returned (.string (M.strOf t)) ∧ w'' = w'.drew := fun w' e => by
        subst hn1; rw [ht]
        exact piece_any _ a q av c f.now w' (hrow.kept fun k _ => by rw [e]) (by rw [World.cell?_of_block (w := w1) (by rw [e])]; exact y0) ha hlen (by omega)
      have htl : t.length ≤ 4194304 := by rw [ht]; simp; omega
      have htl2 : a + t.length ≤ 4194304 ∨ t.length = 0 := by rw [ht]; simp; omega
      have hta : a + t.length ≤ 4194304 := by omega
      have hsz : (M.strOf t).size = t.length := by simp [M.strOf, ByteArray.size]
      have d2 : w1.cell? ⟨db, 2, none⟩ = some (.string noS) := cell_blk hbox 2
      have df := frozen_blk hbox
      have HPC := Lib.hid hpc
      have HSZ := Lib.hid hsz
      have HB2 := Lib.hid hb
      have HO := Lib.hid ho
      clear hR hh hbox hb hfb hF hrow HN hf hpc ht hsz ho
      have hts : (M.strOf t).size ≤ 4194304 := by rw [HSZ.out]; exact htl
      have hts2 : a + (M.strOf t).size ≤ 4194304 := by rw [HSZ.out]; exact hta
      generalize M.strOf t = ts at *
      clear htl htl2 hta
      go_enter Tryz.func94, Tryz.ntmps94
      go_wp2
      go_region_with (go_at_call 95; refine (HPC.out _ (by rfl)).mono ?_; rintro e w' ⟨rfl, rfl⟩)
      all_goals
        go_wp2
        go_region
        all_goals
          go_wp2
          go_ret
          obtain ⟨q1, q2⟩ := set1_rep HR.out db 2 hdb (.string ts)
          obtain ⟨q3, q4⟩ := hand_rep q1 HH.out (a + ts.size) hts2
          rw [Int.natCast_add] at q3 q4
          have hbx : ((w1.setCell ⟨db, 2, none⟩ (.string ts)).setCell ⟨g1.hb (dh.toNat - 1), 3, none⟩ (.int .i64 ((a : Int) + (ts.size : Int)))).heap[db]? = some (.cells (ddcells ⟨2, dh, ts, noS, q, 0⟩).toArray 82 (0, 0)) := (blk_set_other _ _ _ _ _ hne.symm).trans (blk_set HB.out 2 _)
          refine ⟨own1, g1, by rw [HA.out]; rfl, ?_, ?_, (q2.trans (q4.weak _)).trans (fr_drew 3 _)⟩
          · rw [HA.out]; exact rep_drew q3 3
          · rw [HA.out]; exact hbx
  · have HA : Hid (actRead n { s with ch := s.ch.tail } ⟨2, dh, noS, noS, n, 0⟩ i m a = ({ s with ch := s.ch.tail }, ⟨2, dh, noS, noS, n, 33⟩)) := Lib.hid (by unfold actRead; rw [if_pos hm])
    have hmb : (m != 1) = true := by simpa using hm
    clear hR hh hbox hb hfb hF hrow HN hf
    go_enter Tryz.func94, Tryz.ntmps94
    go_wp2
    go_ret
    exact ⟨own1, g1, by rw [HA.out]; rfl, by rw [HA.out]; exact HR.out, by rw [HA.out]; exact HB.out, Fr.refl _ _ _⟩
end Go.Proofs.YtpkhghjmelgpeaaGreat.Wk
