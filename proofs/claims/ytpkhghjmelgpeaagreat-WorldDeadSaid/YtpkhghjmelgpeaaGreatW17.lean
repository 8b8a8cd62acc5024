/- full, refuses. -/
import Derived.Test.YtpkhghjmelgpeaaGreatW16
set_option linter.unusedVariables false
namespace Go.Proofs.YtpkhghjmelgpeaaGreat.Wk
open Go.ChangeShapes Go.WideShapes Go.ChangeAt Go.RowKit M

set_option maxHeartbeats 1000000 in
theorem full_any (own : Own) (w : World) (p : Nat) (s : St) (g : Gh) (h : Rep own w p s g) (b : Bool) (hb : decide (live s.hs = 32) = b) :
    Calls Tryz.prog 116 #[.pointer (some ⟨p, 0, none⟩)] w fun e w' => e = .returned (.bool b) ∧ w = w' := by
  have c8 : w.cell? ⟨p, 8, none⟩ = some (.int .i64 (live s.hs)) := cell_blk h.wcell 8
  have HR := Lib.hid h
  clear h
  cases b
  · have hq : ((live s.hs : Int) == 32) = false := by simp at hb ⊢; omega
    have HB := Lib.hid hb
    clear hb
    go_enter Tryz.func116, Tryz.ntmps116
    go_wp2
    go_ret
    exact ⟨rfl, rfl⟩
  · have hq : ((live s.hs : Int) == 32) = true := by simp at hb ⊢; omega
    have HB := Lib.hid hb
    clear hb
    go_enter Tryz.func116, Tryz.ntmps116
    go_wp2
    go_ret
    exact ⟨rfl, rfl⟩

theorem len_f {own : Own} {w : World} {p : Nat} {s : St} {g : Gh} (h : Rep own w p s g) (ty : TypeId) : (Builtin.len_ #[87] ty #[.map (some g.fm)]).run Tryz.prog w = .ok (.int .i64 (named s.fs)) w := by
  rw [h.fmap.len Tryz.underlying87 ty, h.fis.size]

theorem fval_nil (g : Gh) (x : Option Nat) (w : World) : (binOp .eql 86 (fval g x) (.pointer none)).run Tryz.prog w = .ok (.bool x.isNone) w := by
  cases x
  · kernel_rfl
  · kernel_rfl

set_option maxHeartbeats 4000000 in
set_option maxRecDepth 100000 in
theorem refuses_any (own : Own) (w : World) (p : Nat) (s : St) (g : Gh) (name : ByteArray) (mode : Int) (h : Rep own w p s g) (hs : name.size ≤ maxLen) :
    Calls Tryz.prog 90 #[.pointer (some ⟨p, 0, none⟩), .string name, .int .i64 mode] w fun e w' => e = .returned (.int .i64 (refuses s name mode)) ∧ w = w' := by
  have c4 : w.cell? ⟨p, 4, none⟩ = some (.map (some g.fm)) := cell_blk h.wcell 4
  have hlook := look_f h name hs
  have HIN := Lib.hid (isName_any name w hs)
  cases hn : isName name
  · rw [hn] at HIN
    have HR : Hid (refuses s name mode = 35) := Lib.hid (by unfold M.refuses; rw [if_pos hn])
    clear h hn hlook
    go_enter Tryz.func90, Tryz.ntmps90
    go_wp2_with (go_at_call 35; refine HIN.out.mono ?_; rintro e w' ⟨rfl, rfl⟩)
    go_ret
    exact ⟨by rw [HR.out]; rfl, rfl⟩
  · rw [hn] at HIN
    by_cases hm : mode < 1 ∨ 3 < mode
    · have HR : Hid (refuses s name mode = 33) := Lib.hid (by unfold M.refuses; rw [if_neg (by simp [hn]), if_pos hm])
      clear h hn hlook
      rcases hm with hm | hm
      all_goals
        go_enter Tryz.func90, Tryz.ntmps90
        go_wp2_with (go_at_call 35; refine HIN.out.mono ?_; rintro e w' ⟨rfl, rfl⟩)
        all_goals first | (exfalso; omega) | skip
        go_ret
        exact ⟨by rw [HR.out]; rfl, rfl⟩
    · have h1 : decide (mode < 1) = false := by simp; omega
      have h2 : decide (3 < mode) = false := by simp; omega
      cases hf : find s.fs name with
      | none =>
        rw [hf] at hlook
        simp only [fval] at hlook
        by_cases h3 : mode = 1
        · have HR : Hid (refuses s name mode = 32) := Lib.hid (by unfold M.refuses; rw [if_neg (by simp [hn]), if_neg hm, if_pos ⟨hf, h3⟩])
          have h3b : (mode == 1) = true := by simpa using h3
          clear h hn hf hm h3
          go_enter Tryz.func90, Tryz.ntmps90
          go_wp2_with (go_at_call 35; refine HIN.out.mono ?_; rintro e w' ⟨rfl, rfl⟩)
          go_ret
          exact ⟨by rw [HR.out]; rfl, rfl⟩
        · have h3b : (mode == 1) = false := by simpa using h3
          have HF := Lib.hid (full_any own w p s g h _ rfl)
          have hlen := len_f h 3
          by_cases h4 : live s.hs = 32
          · have HR : Hid (refuses s name mode = 34) := Lib.hid (by unfold M.refuses; rw [if_neg (by simp [hn]), if_neg hm, if_neg (by simp [h3]), if_pos (.inl h4)])
            rw [show decide (live s.hs = 32) = true by simpa using h4] at HF
            clear h hn hf hm h3 h4 hlen
            go_enter Tryz.func90, Tryz.ntmps90
            go_wp2_with (first
              | (go_at_call 35; refine HIN.out.mono ?_; rintro e w' ⟨rfl, rfl⟩)
              | (go_at_call 116; refine HF.out.mono ?_; rintro e w' ⟨rfl, rfl⟩))
            go_ret
            exact ⟨by rw [HR.out]; rfl, rfl⟩
          · rw [show decide (live s.hs = 32) = false by simpa using h4] at HF
            by_cases h5 : named s.fs = 64
            · have HR : Hid (refuses s name mode = 34) := Lib.hid (by unfold M.refuses; rw [if_neg (by simp [hn]), if_neg hm, if_neg (by simp [h3]), if_pos (.inr ⟨hf, h5⟩)])
              have h5b : ((named s.fs : Int) == 64) = true := by simp; omega
              clear h hn hf hm h3 h4 h5
              go_enter Tryz.func90, Tryz.ntmps90
              go_wp2_with (first
                | (go_at_call 35; refine HIN.out.mono ?_; rintro e w' ⟨rfl, rfl⟩)
                | (go_at_call 116; refine HF.out.mono ?_; rintro e w' ⟨rfl, rfl⟩))
              go_ret
              exact ⟨by rw [HR.out]; rfl, rfl⟩
            · have HR : Hid (refuses s name mode = 0) := Lib.hid (by unfold M.refuses; rw [if_neg (by simp [hn]), if_neg hm, if_neg (by simp [h3]), if_neg (by simp [h4, h5])])
              have h5b : ((named s.fs : Int) == 64) = false := by simp; omega
              clear h hn hf hm h3 h4 h5
              go_enter Tryz.func90, Tryz.ntmps90
              go_wp2_with (first
                | (go_at_call 35; refine HIN.out.mono ?_; rintro e w' ⟨rfl, rfl⟩)
                | (go_at_call 116; refine HF.out.mono ?_; rintro e w' ⟨rfl, rfl⟩))
              go_ret
              exact ⟨by rw [HR.out]; rfl, rfl⟩
      | some i =>
        rw [hf] at hlook
        simp only [fval] at hlook
        have HF := Lib.hid (full_any own w p s g h _ rfl)
        by_cases h4 : live s.hs = 32
        · have HR : Hid (refuses s name mode = 34) := Lib.hid (by unfold M.refuses; rw [if_neg (by simp [hn]), if_neg hm, if_neg (by simp [hf]), if_pos (.inl h4)])
          rw [show decide (live s.hs = 32) = true by simpa using h4] at HF
          clear h hn hf hm h4
          go_enter Tryz.func90, Tryz.ntmps90
          go_wp2_with (first
            | (go_at_call 35; refine HIN.out.mono ?_; rintro e w' ⟨rfl, rfl⟩)
            | (go_at_call 116; refine HF.out.mono ?_; rintro e w' ⟨rfl, rfl⟩))
          go_ret
          exact ⟨by rw [HR.out]; rfl, rfl⟩
        · have HR : Hid (refuses s name mode = 0) := Lib.hid (by unfold M.refuses; rw [if_neg (by simp [hn]), if_neg hm, if_neg (by simp [hf]), if_neg (by simp [h4, hf])])
          rw [show decide (live s.hs = 32) = false by simpa using h4] at HF
          clear h hn hf hm h4
          go_enter Tryz.func90, Tryz.ntmps90
          go_wp2_with (first
            | (go_at_call 35; refine HIN.out.mono ?_; rintro e w' ⟨rfl, rfl⟩)
            | (go_at_call 116; refine HF.out.mono ?_; rintro e w' ⟨rfl, rfl⟩))
          go_ret
          exact ⟨by rw [HR.out]; rfl, rfl⟩
end Go.Proofs.YtpkhghjmelgpeaaGreat.Wk
