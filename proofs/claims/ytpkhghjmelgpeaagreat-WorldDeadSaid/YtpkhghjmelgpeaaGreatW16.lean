/- Write. -/
import Derived.Test.YtpkhghjmelgpeaaGreatW15
set_option linter.unusedVariables false
namespace Go.Proofs.YtpkhghjmelgpeaaGreat.Wk
open Go.ChangeShapes Go.WideShapes Go.ChangeAt Go.RowKit M

set_option maxHeartbeats 1000000 in
theorem place_any (hb fb : Nat) (m a : Int) (av : Option Addr) (n c : Nat) (w : World) (x2 : w.cell? ⟨hb, 2, none⟩ = some (.int .i64 m)) (x1 : w.cell? ⟨hb, 1, none⟩ = some (.pointer (some ⟨fb, 0, none⟩))) (x3 : w.cell? ⟨hb, 3, none⟩ = some (.int .i64 a)) (y0 : w.cell? ⟨fb, 0, none⟩ = some (.slice av n c)) :
    Calls Tryz.prog 97 #[.pointer (some ⟨hb, 0, none⟩)] w fun e w' => e = .returned (.int .i64 (if m = 3 then (n : Int) else a)) ∧ w = w' := by
  by_cases hm : m = 3
  · rw [if_pos hm]
    subst hm
    go_enter Tryz.func97, Tryz.ntmps97
    go_wp2
    go_ret
    exact ⟨rfl, rfl⟩
  · rw [if_neg hm]
    have hmb : (m == 3) = false := by simpa using hm
    go_enter Tryz.func97, Tryz.ntmps97
    go_wp2
    go_ret
    exact ⟨rfl, rfl⟩

theorem told_write (t : ByteArray) (s : St) (d : Dd) (i : Nat) (m : Int) (a : Nat) : (actWrite t s d i m a).1.told = s.told := by
  unfold actWrite; split
  · rfl
  · simp only; split <;> (split <;> rfl)

set_option maxHeartbeats 4000000 in
set_option maxRecDepth 100000 in
theorem Write1_does (own : Own) (w : World) (p : Nat) (s : St) (dh : Int) (t : ByteArray) (tb wb : Nat) (htb : w.heap[tb]? = some (.cells #[.string t] 9 (0, 0))) (hto : own tb = none) (hwb : w.heap[wb]? = some (.cells #[.pointer (some ⟨p, 0, none⟩)] 29 (0, 0))) (hwo : own wb = none) (hw : s.writes ≤ 1099511627776) (hts : t.size ≤ 9223372036854775807) :
    DoesF own w p 96 #[.pointer (some ⟨tb, 0, none⟩), .pointer (some ⟨wb, 0, none⟩)] s ⟨3, dh, t, noS, 0, 0⟩ (actWrite t) := by
  intro own1 w1 g1 db i m a hh hR hdb hbox hF
  obtain ⟨f, av, n1, c, sv, uv, hf, hb, ho, hfb, hfo, hn1, hrow, ha, hlen⟩ := hand_cells hR hh
  simp only at hf hh
  subst hn1
  obtain ⟨x0, x1, x2, x3, xf⟩ := box4 hb
  have y0 : w1.cell? ⟨g1.fb i, 0, none⟩ = some (.slice av f.now.length c) := cell_blk hfb 0
  have ct : w1.cell? ⟨tb, 0, none⟩ = some (.string t) := cell_blk ((hF.kept _ (blk_lt htb) hto (fun e => e)).trans htb) 0
  have cw : w1.cell? ⟨wb, 0, none⟩ = some (.pointer (some ⟨p, 0, none⟩)) := cell_blk ((hF.kept _ (blk_lt hwb) hwo (fun e => e)).trans hwb) 0
  have htb1 := (hF.kept _ (blk_lt htb) hto (fun e => e)).trans htb
  have hto1 : own1 tb = none := (hF.old _ (blk_lt htb)).trans hto
  have hne : g1.hb (dh.toNat - 1) ≠ db := fun e => by rw [← e, ho] at hdb; cases hdb
  have HR := Lib.hid hR
  have HH := Lib.hid hh
  have HB := Lib.hid hbox
  have HN := nowOf_get hf
  by_cases hm : m = 1
  · have HA : Hid (actWrite t { s with ch := s.ch.tail } ⟨3, dh, t, noS, 0, 0⟩ i m a = ({ s with ch := s.ch.tail }, ⟨3, dh, t, noS, 0, 33⟩)) := Lib.hid (by unfold actWrite; rw [if_pos hm])
    subst hm
    clear hR hh hbox hb hfb hF hrow HN hf htb hwb htb1
    go_enter Tryz.func96, Tryz.ntmps96
    go_wp2
    go_ret
    exact ⟨own1, g1, by rw [HA.out]; rfl, by rw [HA.out]; exact HR.out, by rw [HA.out]; exact HB.out, Fr.refl _ _ _⟩
  · have hmb : (m == 1) = false := by simpa using hm
    obtain ⟨q, hq⟩ : ∃ q : Nat, q = if m = 3 then f.now.length else a := ⟨_, rfl⟩
    have hqi : (if m = 3 then (f.now.length : Int) else (a : Int)) = (q : Int) := by rw [hq]; split <;> rfl
    have hq4 : q ≤ 4194304 := by rw [hq]; split <;> omega
    have hpl := place_any (g1.hb (dh.toNat - 1)) (g1.fb i) m a av f.now.length c w1 x2 x1 x3 y0
    rw [hqi] at hpl
    have HPL := Lib.hid hpl
    by_cases hbig : 4194304 < q + t.size
    · have HA : Hid (actWrite t { s with ch := s.ch.tail } ⟨3, dh, t, noS, 0, 0⟩ i m a = ({ s with ch := s.ch.tail }, ⟨3, dh, t, noS, 0, 34⟩)) := Lib.hid (by
        unfold actWrite; rw [if_neg hm]; simp only; rw [HN, ← hq, if_pos hbig])
      have hd : decide ((4194304 : Int) - q < t.size) = true := by simp; omega
      clear hR hh hbox hb hfb hF hrow HN hf htb hwb hpl hqi hq htb1
      go_enter Tryz.func96, Tryz.ntmps96
      go_wp2_with (go_at_call 97; refine HPL.out.mono ?_; rintro e w' ⟨rfl, rfl⟩)
      go_ret
      exact ⟨own1, g1, by rw [HA.out]; rfl, by rw [HA.out]; exact HR.out, by rw [HA.out]; exact HB.out, Fr.refl _ _ _⟩
    · have HA : Hid (actWrite t { s with ch := s.ch.tail } ⟨3, dh, t, noS, 0, 0⟩ i m a = ({ change { s with ch := s.ch.tail } i false q t with hs := setAt s.hs dh (.file false i m (q + t.size)) }, ⟨3, dh, t, noS, 0, 0⟩)) := Lib.hid (by
        unfold actWrite; rw [if_neg hm]; simp only; rw [HN, ← hq, if_neg hbig]; rfl)
      have hd : decide ((4194304 : Int) - q < t.size) = false := by simp; omega
      have hch : ∀ w' : World, w'.heap = w1.heap → w'.os = w1.os → w'.tape = w1.tape → w'.output = w1.output → Calls Tryz.prog 91 #[.pointer (some ⟨p, 0, none⟩), .pointer (some ⟨g1.fb i, 0, none⟩), .agg #[.int .i64 0, .bool false, .int .i64 q, .string t]] w' (Changed own1 w' p (change { s with ch := s.ch.tail } i false q t) g1) := fun w' e _ _ _ =>
        change_any own1 w' p _ g1 (hR.kept (fun k hk => by rw [e]; exact hR.owns k hk) (fun _ _ e => e) (fun _ _ _ _ => by rw [e])) i f hf 0 false q t (by omega) hw
      have HCH := Lib.hid hch
      have HO := Lib.hid ho
      have hdl := blk_lt hbox
      have htl := blk_lt htb1
      have HT1 := Lib.hid htb1
      have hqt : (q : Int) + t.size ≤ 4194304 := by omega
      clear hR hh hbox hb hfb hF hrow HN hf htb hwb hpl hqi hq htb1 hch hbig ho
      go_enter Tryz.func96, Tryz.ntmps96
      go_wp2_with (go_at_call 97; refine HPL.out.mono ?_; rintro e w' ⟨rfl, rfl⟩)
      go_region_with ((go_at_call 91; refine (HCH.out _ (by rfl) (by rfl) (by rfl) (by rfl)).mono ?_; rintro e w2 ⟨own2, rfl, hR2, hF2⟩; have HR2 := Lib.hid hR2; have HF2 := Lib.hid hF2; clear hR2 hF2))
      all_goals
        have hb2 := (HF2.out.kept tb htl hto1 (fun e => e)).trans HT1.out
        have ct2 := cell_blk hb2 0
        have HD2 := Lib.hid ((HF2.out.kept db hdl hdb (fun e => e)).trans HB.out)
        obtain ⟨ho2, fp2, hbb2, _⟩ := HR2.out.hands _ _ (hdOf_get (show hdOf (change { s with ch := s.ch.tail } i false q t).hs dh = _ from HH.out) (by simp)).2
        have k3 := cell_blk hbb2 3
        have kf := frozen_blk hbb2 3
        have HO2 := Lib.hid ho2
        clear hb2 hbb2 ho2
        go_wp2
        go_ret
        obtain ⟨q3, q4⟩ := hand_rep HR2.out (show hdOf (change { s with ch := s.ch.tail } i false q t).hs dh = _ from HH.out) (q + t.size) (by omega)
        rw [Int.natCast_add] at q3 q4
        refine ⟨own2, g1, by rw [HA.out]; rfl, by rw [HA.out]; exact q3, ?_, ?_⟩
        · rw [HA.out]
          refine (blk_set_other _ _ _ _ _ hne.symm).trans ?_
          exact HD2.out
        · exact (show Fr own1 w1 own2 w2 noE from ⟨HF2.out.os, HF2.out.tape, HF2.out.output, HF2.out.size, HF2.out.old, HF2.out.kept⟩).weak _ |>.trans (q4.weak _)

set_option maxHeartbeats 2000000 in
set_option maxRecDepth 100000 in
theorem write_any (own : Own) (w : World) (p : Nat) (s : St) (g : Gh) (dh : Int) (t : ByteArray) (h : Rep own w p s g) (ht : s.told.length ≤ 1099511627776) (hh : (Lit.int .i64 dh).wf = true) (hw : s.writes ≤ 1099511627776) (hts : t.size ≤ 9223372036854775807) :
    Calls Tryz.prog 32 #[.pointer (some ⟨p, 0, none⟩), .int .i64 dh, .string t] w (Ops own w p s ⟨3, dh, t, noS, 0, 0⟩ (M.onFile (actWrite t)) fun d => .int .i64 d.err) := by
  obtain ⟨W, hW⟩ : ∃ W, W = ((w.alloc (.cells #[.pointer (some ⟨p, 0, none⟩)] 29)).alloc (.cells #[.string t] 9)).alloc (.cells #[.int .u8 3, .int .i64 dh, .string t, .string noS, .int .i64 0, .int .i64 0] 82) := ⟨_, rfl⟩
  have hB : Below w.heap.size w W := by rw [hW]; exact (((Below.refl _ _).alloc (Nat.le_refl _) _).alloc (by simp) _).alloc (by simp; omega) _
  have b0 : W.heap[w.heap.size]? = some (.cells #[.pointer (some ⟨p, 0, none⟩)] 29 (0, 0)) := by rw [hW]; exact (Below.heap_alloc _ _ _ (by simp; omega)).trans (alloc2_a w _ _)
  have b1 : W.heap[w.heap.size + 1]? = some (.cells #[.string t] 9 (0, 0)) := by rw [hW]; exact (Below.heap_alloc _ _ _ (by simp)).trans (alloc2_b w _ _)
  have hRW := h.below hB (Nat.le_refl _)
  have hP := onFile_any own W p s g hRW 3 dh t noS 0 96 #[.pointer (some ⟨w.heap.size + 1, 0, none⟩), .pointer (some ⟨w.heap.size, 0, none⟩)] (actWrite t) hh (Go.Proofs.enters_of Tryz.func96 (by kernel_rfl) rfl)
    (Write1_does own W p s dh t _ _ b1 (owns_none h.owns (by omega)) b0 (owns_none h.owns (Nat.le_refl _)) hw hts) ht (told_onFile (told_write t) _ _ _)
  have HP := Lib.hid hP
  have HW := Lib.hid hW
  have HFW := Lib.hid (Fr.of_below (own := own) hB (Nat.le_refl _) noE)
  clear hP hW b0 b1 hRW hB h
  go_enter Tryz.func32, Tryz.ntmps32
  go_wp2_with fail
  rw [show (((w.alloc (.cells #[.pointer (some ⟨p, 0, none⟩)] 29)).alloc (.cells #[.string t] 9)).alloc (.cells #[.int .u8 3, .int .i64 dh, .string t, .string ⟨#[]⟩, .int .i64 0, .int .i64 0] 82)) = W from HW.out.symm]
  refine HP.out.mono ?_
  rintro e w1 ⟨own', g', rfl, hR, hF⟩
  obtain ⟨r, hr⟩ : ∃ r, r = perform s ⟨3, dh, t, noS, 0, 0⟩ (M.onFile (actWrite t)) := ⟨_, rfl⟩
  rw [← hr] at hR
  rw [← hr]
  obtain ⟨s', a0, a1, a2, a3, a4, a5⟩ := r
  have HF := Lib.hid hF
  have HPR := Lib.hid hr
  have HR := Lib.hid hR
  clear HP hF hr hR
  have e0 : (ddcells ⟨a0, a1, a2, a3, a4, a5⟩).toArray = #[.int .u8 a0, .int .i64 a1, .string a2, .string a3, .int .i64 a4, .int .i64 a5] := rfl
  simp only [e0]
  clear e0
  have hf := field5 a0 a1 a4 a5 a2 a3 w1
  go_wp2
  go_ret
  refine ⟨own', g', by rw [← HPR.out]; rfl, by rw [← HPR.out]; exact HR.out, HFW.out.trans HF.out⟩
end Go.Proofs.YtpkhghjmelgpeaaGreat.Wk
