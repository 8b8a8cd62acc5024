/- Open, Size, Dead, Trace. -/
import Derived.Test.YtpkhghjmelgpeaaGreatW20
set_option linter.unusedVariables false
namespace Go.Proofs.YtpkhghjmelgpeaaGreat.Wk
open Go.ChangeShapes Go.WideShapes Go.ChangeAt Go.RowKit M

set_option maxHeartbeats 2000000 in
set_option maxRecDepth 100000 in
theorem open_any (own : Own) (w : World) (p : Nat) (s : St) (g : Gh) (name : ByteArray) (mode : Int) (h : Rep own w p s g) (ht : s.told.length ≤ 1099511627776) (hns : name.size ≤ maxLen) (hw : s.writes ≤ 1099511627776) (hhl : s.hs.length ≤ 1099511627776) :
    Calls Tryz.prog 30 #[.pointer (some ⟨p, 0, none⟩), .string name, .int .i64 mode] w (Ops own w p s ⟨1, 0, name, noS, mode, 0⟩ (actOpen name mode) fun d => .tuple #[.int .i64 d.handle, .int .i64 d.err]) := by
  obtain ⟨W, hW⟩ : ∃ W, W = (((w.alloc (.cells #[.pointer (some ⟨p, 0, none⟩)] 29)).alloc (.cells #[.string name] 9)).alloc (.cells #[.int .i64 mode] 3)).alloc (.cells #[.int .u8 1, .int .i64 0, .string name, .string noS, .int .i64 mode, .int .i64 0] 82) := ⟨_, rfl⟩
  have hB : Below w.heap.size w W := by rw [hW]; exact ((((Below.refl _ _).alloc (Nat.le_refl _) _).alloc (by simp) _).alloc (by simp; omega) _).alloc (by simp; omega) _
  have b0 : W.heap[w.heap.size]? = some (.cells #[.pointer (some ⟨p, 0, none⟩)] 29 (0, 0)) := by rw [hW]; exact (Below.heap_alloc _ _ _ (by simp; omega)).trans ((Below.heap_alloc _ _ _ (by simp; omega)).trans (alloc2_a w _ _))
  have b1 : W.heap[w.heap.size + 1]? = some (.cells #[.string name] 9 (0, 0)) := by rw [hW]; exact (Below.heap_alloc _ _ _ (by simp; try omega)).trans ((Below.heap_alloc _ _ _ (by simp)).trans (alloc2_b w _ _))
  have b2 : W.heap[w.heap.size + 2]? = some (.cells #[.int .i64 mode] 3 (0, 0)) := by
    rw [hW]
    have e := alloc2_b (w.alloc (.cells #[.pointer (some ⟨p, 0, none⟩)] 29)) (.cells #[.string name] 9) (.cells #[.int .i64 mode] 3)
    refine (Below.heap_alloc _ _ _ (by simp)).trans ?_
    simpa using e
  have hRW := h.below hB (Nat.le_refl _)
  have hP := perform_any own W p s g hRW 1 0 name noS mode 89 #[.pointer (some ⟨w.heap.size, 0, none⟩), .pointer (some ⟨w.heap.size + 1, 0, none⟩), .pointer (some ⟨w.heap.size + 2, 0, none⟩)] (actOpen name mode) (Go.Proofs.enters_of Tryz.func89 (by kernel_rfl) rfl)
    (Open1_does own W p s name mode _ _ _ b0 (owns_none h.owns (Nat.le_refl _)) b1 (owns_none h.owns (by omega)) b2 (owns_none h.owns (by omega)) hns hw hhl) ht (told_open name mode _ _ _)
  have HP := Lib.hid hP
  have HW := Lib.hid hW
  have HFW := Lib.hid (Fr.of_below (own := own) hB (Nat.le_refl _) noE)
  clear hP hW b0 b1 b2 hRW hB h
  go_enter Tryz.func30, Tryz.ntmps30
  go_wp2_with fail
  rw [show (((w.alloc (.cells #[.pointer (some ⟨p, 0, none⟩)] 29)).alloc (.cells #[.string name] 9)).alloc (.cells #[.int .i64 mode] 3)).alloc (.cells #[.int .u8 1, .int .i64 0, .string name, .string ⟨#[]⟩, .int .i64 mode, .int .i64 0] 82) = W from HW.out.symm]
  refine HP.out.mono ?_
  rintro e w1 ⟨own', g', rfl, hR, hF⟩
  obtain ⟨r, hr⟩ : ∃ r, r = perform s ⟨1, 0, name, noS, mode, 0⟩ (actOpen name mode) := ⟨_, rfl⟩
  rw [← hr] at hR
  rw [← hr]
  obtain ⟨s', a0, a1, a2, a3, a4, a5⟩ := r
  have HF := Lib.hid hF
  have HPR := Lib.hid hr
  have HR := Lib.hid hR
  clear HP hF hr hR
  have e0 : (ddcells ⟨a0, a1, a2, a3, a4, a5⟩).toArray = #[.int .u8 a0, .int .i64 a1, .string a2, .string a3, .int .i64 a4, .int .i64 a5] := rfl
  simp only [e0]
  clear e0
  go_wp2
  go_quiet (fail)
  go_wp2
  go_ret2
  refine ⟨own', g', by rw [← HPR.out]; rfl, by rw [← HPR.out]; exact rep_drew (alloc_rep HR.out _).1 _, (HFW.out.trans HF.out).trans ((alloc_rep HR.out _).2.trans (fr_drew _ _))⟩

set_option maxHeartbeats 1000000 in
set_option maxRecDepth 100000 in
theorem size_any (own : Own) (w : World) (p : Nat) (s : St) (g : Gh) (n : Int) (h : Rep own w p s g) (hn : (Lit.int .i64 n).wf = true) :
    Calls Tryz.prog 26 #[.pointer (some ⟨p, 0, none⟩), .int .i64 n] w fun e w' => e = .returned (.tuple #[.int .i64 (M.sizeOf s n).1, .int .i64 (M.sizeOf s n).2]) ∧ w = w' := by
  have c2 : w.cell? ⟨p, 2, none⟩ = some (.bool s.dead) := cell_blk h.wcell 2
  have HFO := Lib.hid (fileOf_any own w p s g n h hn)
  cases hd : s.dead
  · rw [hd] at c2
    cases hh : hdOf s.hs n with
    | closed =>
      have HA : Hid (M.sizeOf s n = (0, 30)) := Lib.hid (by unfold M.sizeOf; rw [if_neg (by simp [hd]), hh])
      rw [hh] at HFO
      simp only [fileV] at HFO
      clear h hh hd
      go_enter Tryz.func26, Tryz.ntmps26
      go_wp2_with (go_at_call 87; refine HFO.out.mono ?_; rintro e w' ⟨rfl, rfl⟩)
      go_ret2
      exact ⟨by rw [HA.out]; rfl, rfl⟩
    | host st =>
      have HA : Hid (M.sizeOf s n = (0, 30)) := Lib.hid (by unfold M.sizeOf; rw [if_neg (by simp [hd]), hh])
      rw [hh] at HFO
      simp only [fileV] at HFO
      clear h hh hd
      go_enter Tryz.func26, Tryz.ntmps26
      go_wp2_with (go_at_call 87; refine HFO.out.mono ?_; rintro e w' ⟨rfl, rfl⟩)
      go_ret2
      exact ⟨by rw [HA.out]; rfl, rfl⟩
    | file st i m a =>
      cases st
      · obtain ⟨f, av, n1, c, sv, uv, hf, hb, ho, hfb, hfo, hn1, hrow, ha, hlen⟩ := hand_cells h hh
        subst hn1
        have HA : Hid (M.sizeOf s n = ((f.now.length : Int), 0)) := Lib.hid (by unfold M.sizeOf; rw [if_neg (by simp [hd]), hh]; simp only; rw [nowOf_get hf])
        rw [hh] at HFO
        simp only [fileV] at HFO
        have x1 := cell_blk hb 1
        have y0 : w.cell? ⟨g.fb i, 0, none⟩ = some (.slice av f.now.length c) := cell_blk hfb 0
        clear h hh hd hf hb hfb hrow
        go_enter Tryz.func26, Tryz.ntmps26
        go_wp2_with (go_at_call 87; refine HFO.out.mono ?_; rintro e w' ⟨rfl, rfl⟩)
        go_ret2
        exact ⟨by rw [HA.out]; rfl, rfl⟩
      · have HA : Hid (M.sizeOf s n = (0, 31)) := Lib.hid (by unfold M.sizeOf; rw [if_neg (by simp [hd]), hh])
        rw [hh] at HFO
        simp only [fileV] at HFO
        clear h hh hd
        go_enter Tryz.func26, Tryz.ntmps26
        go_wp2_with (go_at_call 87; refine HFO.out.mono ?_; rintro e w' ⟨rfl, rfl⟩)
        go_ret2
        exact ⟨by rw [HA.out]; rfl, rfl⟩
  · rw [hd] at c2
    have HA : Hid (M.sizeOf s n = (0, 36)) := Lib.hid (by unfold M.sizeOf; rw [if_pos hd])
    clear h hd
    go_enter Tryz.func26, Tryz.ntmps26
    go_wp2
    go_ret2
    exact ⟨by rw [HA.out]; rfl, rfl⟩

set_option maxHeartbeats 1000000 in
theorem dead_any (own : Own) (w : World) (p : Nat) (s : St) (g : Gh) (h : Rep own w p s g) : Calls Tryz.prog 23 #[.pointer (some ⟨p, 0, none⟩)] w fun e w' => e = .returned (.bool s.dead) ∧ w = w' := by
  have c2 : w.cell? ⟨p, 2, none⟩ = some (.bool s.dead) := cell_blk h.wcell 2
  clear h
  go_enter Tryz.func23, Tryz.ntmps23
  go_wp2
  go_ret
  exact ⟨rfl, rfl⟩

theorem ddflat_one (l : List Dd) : ∀ u ∈ l.flatMap ddcells, u.oneCell' = true := by
  intro u hu; obtain ⟨d, _, hd⟩ := List.mem_flatMap.1 hu; exact ddcells_one d u hd
set_option maxHeartbeats 1000000 in
theorem trace_any (own : Own) (w : World) (p : Nat) (s : St) (g : Gh) (h : Rep own w p s g) (ht : s.told.length ≤ 1099511627776) : Calls Tryz.prog 20 #[.pointer (some ⟨p, 0, none⟩)] w (Cloned 82 6 w s.told.length (s.told.flatMap ddcells)) := by
  have c3 : w.cell? ⟨p, 3, none⟩ = some g.tv := cell_blk h.wcell 3
  have HC := Lib.hid (cloneDd_any g.tv s.told.length _ w h.trow.rd (ddflat_one _) (by omega))
  obtain ⟨a, c, hv, _⟩ := h.trow.rd
  rw [hv] at c3 HC
  clear h hv
  go_enter Tryz.func20, Tryz.ntmps20
  go_wp2_with fail
  refine HC.out.mono ?_
  rintro e w1 ⟨v', rfl, h1, h2, h3⟩
  have H1 := Lib.hid h1
  have H2 := Lib.hid h2
  have H3 := Lib.hid h3
  clear h1 h2 h3
  go_wp2
  go_ret
  exact ⟨v', rfl, H1.out, H2.out, H3.out⟩
end Go.Proofs.YtpkhghjmelgpeaaGreat.Wk
