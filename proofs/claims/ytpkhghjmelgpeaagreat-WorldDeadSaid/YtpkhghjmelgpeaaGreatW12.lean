/- Read and Seek. -/
import Derived.Test.YtpkhghjmelgpeaaGreatW11
set_option linter.unusedVariables false
namespace Go.Proofs.YtpkhghjmelgpeaaGreat.Wk
open Go.ChangeShapes Go.WideShapes Go.ChangeAt Go.RowKit M

theorem told_onFile {do_ : St → Dd → Nat → Int → Nat → St × Dd} (h : ∀ s d i m a, (do_ s d i m a).1.told = s.told) (s : St) (c : Ch) (d : Dd) : (M.onFile do_ s c d).1.told = s.told := by
  unfold M.onFile; split
  · exact h _ _ _ _ _
  · rfl
  · rfl
theorem told_read (n : Int) (s : St) (d : Dd) (i : Nat) (m : Int) (a : Nat) : (actRead n s d i m a).1.told = s.told := by
  unfold actRead; split
  · rfl
  · split <;> rfl
theorem told_seek (n : Int) (s : St) (d : Dd) (i : Nat) (m : Int) (a : Nat) : (actSeek n s d i m a).1.told = s.told := by
  unfold actSeek; split <;> rfl

set_option maxHeartbeats 2000000 in
set_option maxRecDepth 100000 in
theorem read_any (own : Own) (w : World) (p : Nat) (s : St) (g : Gh) (dh n : Int) (h : Rep own w p s g) (ht : s.told.length ≤ 1099511627776) (hh : (Lit.int .i64 dh).wf = true) (hn : (Lit.int .i64 n).wf = true) :
    Calls Tryz.prog 31 #[.pointer (some ⟨p, 0, none⟩), .int .i64 dh, .int .i64 n] w (Ops own w p s ⟨2, dh, noS, noS, n, 0⟩ (M.onFile (actRead n)) fun d => .tuple #[.string d.text, .int .i64 d.err]) := by
  obtain ⟨W, hW⟩ : ∃ W, W = (w.alloc (.cells #[.int .i64 n] 3)).alloc (.cells #[.int .u8 2, .int .i64 dh, .string noS, .string noS, .int .i64 n, .int .i64 0] 82) := ⟨_, rfl⟩
  have hB : Below w.heap.size w W := by rw [hW]; exact ((Below.refl _ _).alloc (Nat.le_refl _) _).alloc (by simp) _
  have b0 : W.heap[w.heap.size]? = some (.cells #[.int .i64 n] 3 (0, 0)) := by rw [hW]; exact alloc2_a w _ _
  have hRW := h.below hB (Nat.le_refl _)
  have hP := onFile_any own W p s g hRW 2 dh noS noS n 94 #[.pointer (some ⟨w.heap.size, 0, none⟩)] (actRead n) hh (Go.Proofs.enters_of Tryz.func94 (by kernel_rfl) rfl)
    (Read1_does own W p s dh n _ b0 (owns_none h.owns (Nat.le_refl _)) hn) ht (told_onFile (told_read n) _ _ _)
  have HP := Lib.hid hP
  have HW := Lib.hid hW
  have HFW := Lib.hid (Fr.of_below (own := own) hB (Nat.le_refl _) noE)
  clear hP hW b0 hRW hB h
  go_enter Tryz.func31, Tryz.ntmps31
  go_wp2_with fail
  rw [show ((w.alloc (.cells #[.int .i64 n] 3)).alloc (.cells #[.int .u8 2, .int .i64 dh, .string ⟨#[]⟩, .string ⟨#[]⟩, .int .i64 n, .int .i64 0] 82)) = W from HW.out.symm]
  refine HP.out.mono ?_
  rintro e w1 ⟨own', g', rfl, hR, hF⟩
  obtain ⟨r, hr⟩ : ∃ r, r = perform s ⟨2, dh, noS, noS, n, 0⟩ (M.onFile (actRead n)) := ⟨_, rfl⟩
  rw [← hr] at hR
  rw [← hr]
  obtain ⟨s', a0, a1, a2, a3, a4, a5⟩ := r
  have HF := Lib.hid hF
  have HPR := Lib.hid hr
  have HR := Lib.hid hR
  clear HP hF hr hR
  have e0 : (ddcells ⟨a0, a1, a2, a3, a4, a5⟩).toArray = #[.int .u8 a0, .int .i64 a1, .string a2, .string a3, .int .i64 a4, .int .i64 a5] := rfl
  simp only [e0]
  clear e0
  go_wp2
  go_quiet (fail)
  go_wp2
  go_ret2
  refine ⟨own', g', by rw [← HPR.out]; rfl, by rw [← HPR.out]; exact rep_drew (alloc_rep HR.out _).1 _, (HFW.out.trans HF.out).trans ((alloc_rep HR.out _).2.trans (fr_drew _ _))⟩
end Go.Proofs.YtpkhghjmelgpeaaGreat.Wk
