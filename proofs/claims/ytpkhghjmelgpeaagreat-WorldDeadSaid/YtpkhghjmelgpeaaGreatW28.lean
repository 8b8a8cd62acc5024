/- Sync. -/
import Derived.Test.YtpkhghjmelgpeaaGreatW27
set_option linter.unusedVariables false
namespace Go.Proofs.YtpkhghjmelgpeaaGreat.Wk
open Go.ChangeShapes Go.WideShapes Go.ChangeAt Go.RowKit M

theorem told_sync (s : St) (d : Dd) (i : Nat) (m : Int) (a : Nat) : (actSync s d i m a).1.told = s.told := rfl

set_option maxHeartbeats 4000000 in
set_option maxRecDepth 100000 in
theorem Sync1_does (own : Own) (w : World) (p : Nat) (s : St) (dh : Int) (hw : s.writes ≤ 1099511627776) :
    DoesF own w p 109 #[] s ⟨5, dh, noS, noS, 0, 0⟩ actSync := by
  intro own1 w1 g1 db i m a hh hR hdb hbox hF
  obtain ⟨f, av, n1, c, sv, uv, hf, hb, ho, hfb, hfo, hn1, hrow, ha, hlen⟩ := hand_cells hR hh
  simp only at hf hh
  subst hn1
  obtain ⟨x0, x1, x2, x3, xf⟩ := box4 hb
  have hdl := blk_lt hbox
  have HR := Lib.hid hR
  have HB := Lib.hid hbox
  have HSY := Lib.hid (sync_any own1 w1 p _ g1 hR i f hf hw)
  clear hR hh hbox hb hfb hF hrow hf ho
  go_enter Tryz.func109, Tryz.ntmps109
  go_wp2_with fail
  refine HSY.out.mono ?_
  rintro e w2 ⟨own2, rfl, hR2, hF2⟩
  have HR2 := Lib.hid hR2
  have HF2 := Lib.hid hF2
  clear hR2 hF2
  go_wp2
  go_ret
  exact ⟨own2, g1, rfl, HR2.out, (HF2.out.kept db hdl hdb (fun e => e)).trans HB.out, (show Fr own1 w1 own2 w2 noE from ⟨HF2.out.os, HF2.out.tape, HF2.out.output, HF2.out.size, HF2.out.old, HF2.out.kept⟩).weak _⟩

set_option maxHeartbeats 2000000 in
set_option maxRecDepth 100000 in
theorem syncop_any (own : Own) (w : World) (p : Nat) (s : St) (g : Gh) (dh : Int) (h : Rep own w p s g) (ht : s.told.length ≤ 1099511627776) (hh : (Lit.int .i64 dh).wf = true) (hw : s.writes ≤ 1099511627776) :
    Calls Tryz.prog 45 #[.pointer (some ⟨p, 0, none⟩), .int .i64 dh] w (Ops own w p s ⟨5, dh, noS, noS, 0, 0⟩ (M.onFile actSync) fun d => .int .i64 d.err) := by
  obtain ⟨W, hW⟩ : ∃ W, W = w.alloc (.cells #[.int .u8 5, .int .i64 dh, .string noS, .string noS, .int .i64 0, .int .i64 0] 82) := ⟨_, rfl⟩
  have hB : Below w.heap.size w W := by rw [hW]; exact (Below.refl _ _).alloc (Nat.le_refl _) _
  have hRW := h.below hB (Nat.le_refl _)
  have hP := onFile_any own W p s g hRW 5 dh noS noS 0 109 #[] actSync hh (Go.Proofs.enters_of Tryz.func109 (by kernel_rfl) rfl)
    (Sync1_does own W p s dh hw) ht (told_onFile told_sync _ _ _)
  have HP := Lib.hid hP
  have HW := Lib.hid hW
  have HFW := Lib.hid (Fr.of_below (own := own) hB (Nat.le_refl _) noE)
  clear hP hW hRW hB h
  go_enter Tryz.func45, Tryz.ntmps45
  go_wp2_with fail
  rw [show (w.alloc (.cells #[.int .u8 5, .int .i64 dh, .string ⟨#[]⟩, .string ⟨#[]⟩, .int .i64 0, .int .i64 0] 82)) = W from HW.out.symm]
  refine HP.out.mono ?_
  rintro e w1 ⟨own', g', rfl, hR, hF⟩
  obtain ⟨r, hr⟩ : ∃ r, r = perform s ⟨5, dh, noS, noS, 0, 0⟩ (M.onFile actSync) := ⟨_, rfl⟩
  rw [← hr] at hR
  rw [← hr]
  obtain ⟨s', a0, a1, a2, a3, a4, a5⟩ := r
  have HF := Lib.hid hF
  have HPR := Lib.hid hr
  have HR := Lib.hid hR
  clear HP hF hr hR
  have e0 : (ddcells ⟨a0, a1, a2, a3, a4, a5⟩).toArray = #[.int .u8 a0, .int .i64 a1, .string a2, .string a3, .int .i64 a4, .int .i64 a5] := rfl
  simp only [e0]
  clear e0
  have hf := field5 a0 a1 a4 a5 a2 a3 w1
  go_wp2
  go_ret
  refine ⟨own', g', by rw [← HPR.out]; rfl, by rw [← HPR.out]; exact HR.out, HFW.out.trans HF.out⟩
end Go.Proofs.YtpkhghjmelgpeaaGreat.Wk
