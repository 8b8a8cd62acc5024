/- Seek, Size. -/
import Derived.Test.YtpkhghjmelgpeaaGreatW12
set_option linter.unusedVariables false
namespace Go.Proofs.YtpkhghjmelgpeaaGreat.Wk
open Go.ChangeShapes Go.WideShapes Go.ChangeAt Go.RowKit M

set_option maxHeartbeats 4000000 in
set_option maxRecDepth 100000 in
theorem Seek1_does (own : Own) (w : World) (p : Nat) (s : St) (dh : Int) (n : Int) (nb : Nat) (hnb : w.heap[nb]? = some (.cells #[.int .i64 n] 3 (0, 0))) (hno : own nb = none) (hn : (Lit.int .i64 n).wf = true) :
    DoesF own w p 106 #[.pointer (some ⟨nb, 0, none⟩)] s ⟨4, dh, noS, noS, n, 0⟩ (actSeek n) := by
  intro own1 w1 g1 db i m a hh hR hdb hbox hF
  obtain ⟨f, av, n1, c, sv, uv, hf, hb, ho, hfb, hfo, hn1, hrow, ha, hlen⟩ := hand_cells hR hh
  simp only at hf hh
  subst hn1
  obtain ⟨x0, x1, x2, x3, xf⟩ := box4 hb
  have y0 : w1.cell? ⟨g1.fb i, 0, none⟩ = some (.slice av f.now.length c) := cell_blk hfb 0
  have cn : w1.cell? ⟨nb, 0, none⟩ = some (.int .i64 n) := cell_blk ((hF.kept _ (blk_lt hnb) hno (fun e => e)).trans hnb) 0
  have hne : g1.hb (dh.toNat - 1) ≠ db := fun e => by rw [← e, ho] at hdb; cases hdb
  have HR := Lib.hid hR
  have HH := Lib.hid hh
  have HB := Lib.hid hbox
  have HN := nowOf_get hf
  obtain ⟨hl1, hl2⟩ := bounds_i64 hn
  by_cases hneg : n < 0
  · have HA : Hid (actSeek n { s with ch := s.ch.tail } ⟨4, dh, noS, noS, n, 0⟩ i m a = ({ s with ch := s.ch.tail }, ⟨4, dh, noS, noS, n, 1⟩)) := Lib.hid (by unfold actSeek; rw [if_pos (.inl hneg)])
    clear hR hh hbox hb hfb hF hrow HN hf hnb
    go_enter Tryz.func106, Tryz.ntmps106
    go_wp2
    go_quiet (fail)
    go_wp2
    go_ret
    exact ⟨own1, g1, by rw [HA.out]; rfl, by rw [HA.out]; exact rep_drew HR.out _, by rw [HA.out]; exact HB.out, fr_drew _ _⟩
  · by_cases hbig : (f.now.length : Int) < n
    · have HA : Hid (actSeek n { s with ch := s.ch.tail } ⟨4, dh, noS, noS, n, 0⟩ i m a = ({ s with ch := s.ch.tail }, ⟨4, dh, noS, noS, n, 1⟩)) := Lib.hid (by unfold actSeek; simp only; rw [HN, if_pos (.inr hbig)])
      have hd : decide (n < 0) = false := by simpa using hneg
      clear hR hh hbox hb hfb hF hrow HN hf hnb hneg
      go_enter Tryz.func106, Tryz.ntmps106
      go_wp2
      go_quiet (fail)
      go_wp2
      go_ret
      exact ⟨own1, g1, by rw [HA.out]; rfl, by rw [HA.out]; exact rep_drew HR.out _, by rw [HA.out]; exact HB.out, fr_drew _ _⟩
    · have HA : Hid (actSeek n { s with ch := s.ch.tail } ⟨4, dh, noS, noS, n, 0⟩ i m a = ({ s with ch := s.ch.tail, hs := setAt s.hs dh (.file false i m n.toNat) }, ⟨4, dh, noS, noS, n, 0⟩)) := Lib.hid (by unfold actSeek; simp only; rw [HN, if_neg (by omega)])
      have hd : decide (n < 0) = false := by simpa using hneg
      have hd2 : decide ((f.now.length : Int) < n) = false := by simpa using hbig
      have hnn : ((n.toNat : Nat) : Int) = n := by omega
      have HNN := Lib.hid hnn
      have hle : n.toNat ≤ 4194304 := by omega
      clear hR hh hbox hb hfb hF hrow HN hf hnb hneg hbig hnn
      go_enter Tryz.func106, Tryz.ntmps106
      go_wp2
      go_quiet (fail)
      go_wp2
      go_ret
      obtain ⟨q3, q4⟩ := hand_rep HR.out HH.out n.toNat hle
      rw [HNN.out] at q3 q4
      refine ⟨own1, g1, by rw [HA.out]; rfl, by rw [HA.out]; exact rep_drew q3 _, ?_, (q4.weak _).trans (fr_drew _ _)⟩
      rw [HA.out]; exact (blk_set_other _ _ _ _ _ hne.symm).trans HB.out

set_option maxHeartbeats 2000000 in
set_option maxRecDepth 100000 in
theorem seek_any (own : Own) (w : World) (p : Nat) (s : St) (g : Gh) (dh n : Int) (h : Rep own w p s g) (ht : s.told.length ≤ 1099511627776) (hh : (Lit.int .i64 dh).wf = true) (hn : (Lit.int .i64 n).wf = true) :
    Calls Tryz.prog 43 #[.pointer (some ⟨p, 0, none⟩), .int .i64 dh, .int .i64 n] w (Ops own w p s ⟨4, dh, noS, noS, n, 0⟩ (M.onFile (actSeek n)) fun d => .int .i64 d.err) := by
  obtain ⟨W, hW⟩ : ∃ W, W = (w.alloc (.cells #[.int .i64 n] 3)).alloc (.cells #[.int .u8 4, .int .i64 dh, .string noS, .string noS, .int .i64 n, .int .i64 0] 82) := ⟨_, rfl⟩
  have hB : Below w.heap.size w W := by rw [hW]; exact ((Below.refl _ _).alloc (Nat.le_refl _) _).alloc (by simp) _
  have b0 : W.heap[w.heap.size]? = some (.cells #[.int .i64 n] 3 (0, 0)) := by rw [hW]; exact alloc2_a w _ _
  have hRW := h.below hB (Nat.le_refl _)
  have hP := onFile_any own W p s g hRW 4 dh noS noS n 106 #[.pointer (some ⟨w.heap.size, 0, none⟩)] (actSeek n) hh (Go.Proofs.enters_of Tryz.func106 (by kernel_rfl) rfl)
    (Seek1_does own W p s dh n _ b0 (owns_none h.owns (Nat.le_refl _)) hn) ht (told_onFile (told_seek n) _ _ _)
  have HP := Lib.hid hP
  have HW := Lib.hid hW
  have HFW := Lib.hid (Fr.of_below (own := own) hB (Nat.le_refl _) noE)
  clear hP hW b0 hRW hB h
  go_enter Tryz.func43, Tryz.ntmps43
  go_wp2_with fail
  rw [show ((w.alloc (.cells #[.int .i64 n] 3)).alloc (.cells #[.int .u8 4, .int .i64 dh, .string ⟨#[]⟩, .string ⟨#[]⟩, .int .i64 n, .int .i64 0] 82)) = W from HW.out.symm]
  refine HP.out.mono ?_
  rintro e w1 ⟨own', g', rfl, hR, hF⟩
  obtain ⟨r, hr⟩ : ∃ r, r = perform s ⟨4, dh, noS, noS, n, 0⟩ (M.onFile (actSeek n)) := ⟨_, rfl⟩
  rw [← hr] at hR
  rw [← hr]
  obtain ⟨s', a0, a1, a2, a3, a4, a5⟩ := r
  have HF := Lib.hid hF
  have HPR := Lib.hid hr
  have HR := Lib.hid hR
  clear HP hF hr hR
  have e0 : (ddcells ⟨a0, a1, a2, a3, a4, a5⟩).toArray = #[.int .u8 a0, .int .i64 a1, .string a2, .string a3, .int .i64 a4, .int .i64 a5] := rfl
  simp only [e0]
  clear e0
  have hf := field5 a0 a1 a4 a5 a2 a3 w1
  go_wp2
  go_ret
  refine ⟨own', g', by rw [← HPR.out]; rfl, by rw [← HPR.out]; exact HR.out, HFW.out.trans HF.out⟩
end Go.Proofs.YtpkhghjmelgpeaaGreat.Wk
