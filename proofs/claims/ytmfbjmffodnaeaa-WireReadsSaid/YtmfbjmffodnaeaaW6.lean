/- What open answers: the chunk with which bytes begin. -/
import Derived.Test.YtmfbjmffodnaeaaW5
set_option linter.unusedVariables false
namespace Go.Proofs.Ytmfbjmffodnaeaa.Wk
open Go.ChangeShapes Go.WideShapes Go.ChangeAt Go.RowKit M

theorem bne_ff (x y : Nat) (h : ((x : Int) != (y : Int)) = false) : x = y := by
  have : (x : Int) = y := by simpa using h
  omega
theorem bne_tt (x y : Nat) (h : ((x : Int) != (y : Int)) = true) : ¬ x = y := by
  have : ¬ (x : Int) = y := by simpa using h
  omega

set_option maxHeartbeats 1000000 in
set_option maxRecDepth 100000 in
theorem open_any (r : ByteArray) (w : World) (h8 : 8 ≤ r.size) (hs : r.size ≤ 1073741824) :
    Calls Try.prog 38 #[.string r] w fun e w' => e = .returned (chV r) ∧ Below w.heap.size w w' := by
  have s0 := size_ext r 0 4 (by omega) (by omega)
  have s1 := size_ext r 4 8 (by omega) (by omega)
  have hLt : cL r < 4294967296 := highB_lt _ (by omega)
  have rdL : ∀ w : World, Calls Try.prog 36 #[.string (r.extract 4 8)] w fun e w' => e = .returned (.int .u64 (cL r)) ∧ w = w' := fun w => read_B _ w (by omega)
  have HRL := Lib.hid rdL
  clear rdL s1
  generalize hL : cL r = L at *
  have HL : Hid (∀ _ : Unit, cL r = L) := Lib.hid (fun _ => hL)
  clear hL
  cases ht : tagB (r.extract 0 4)
  · have HT := Lib.hid (chV_bad r 1 (chE_1 r ht) (by decide))
    clear HRL
    go_enter Try.func38, Try.ntmps38
    go_wp2_with fail
    go_quiet (fail)
    go_wp2_with (go_at_call 33; refine (isTag_any _ _).mono ?_; rintro e w' ⟨rfl, rfl⟩)
    go_ret3
    exact ⟨ret_v HT.out.symm, below_dn _ _ _⟩
  · by_cases h21 : L ≤ 16777216
    · by_cases h20 : L + 12 ≤ r.size
      · have HZ : Hid (∀ _ : Unit, ((r.extract 8 r.size).extract L (L + 4)).size ≤ 4 ∧ ((r.extract 8 r.size).extract 0 L).size ≤ maxLen ∧ (r.extract 0 4).size ≤ maxLen) := Lib.hid (fun _ => by
          have sR := size_ext r 8 r.size (by omega) (by omega)
          have a1 := size_ext (r.extract 8 r.size) L (L + 4) (by omega) (by omega)
          have a2 := size_ext (r.extract 8 r.size) 0 L (by omega) (by omega)
          unfold maxLen; omega)
        have hlt1 : highB ((r.extract 8 r.size).extract L (L + 4)) < 4294967296 := highB_lt _ (HZ.out ()).1
        have hlt2 := sum2_lt (r.extract 0 4) ((r.extract 8 r.size).extract 0 L)
        have HW : Hid (∀ _ : Unit, IntKind.u64.wrap ((sum2 (r.extract 0 4) ((r.extract 8 r.size).extract 0 L) : Nat) : Int) = (sum2 (r.extract 0 4) ((r.extract 8 r.size).extract 0 L) : Nat)) := Lib.hid (fun _ => wrap_sum2 _ _)
        go_enter Try.func38, Try.ntmps38
        go_wp2_with fail
        go_quiet (fail)
        go_wp2_with (first
          | (go_at_call 33; refine (isTag_any _ _).mono ?_; rintro e w' ⟨rfl, rfl⟩))
        refine (HRL.out _).mono ?_
        rintro e w' ⟨rfl, rfl⟩
        go_wp2_with fail
        refine (read_B _ _ (Nat.le_trans (HZ.out ()).1 (by omega))).mono ?_
        rintro e w' ⟨rfl, rfl⟩
        go_wp2_with fail
        refine (sumOf_B _ _ _ (HZ.out ()).2.2 (HZ.out ()).2.1).mono ?_
        rintro e w' ⟨rfl, rfl⟩
        have hW := HW.out ()
        go_wp2
        · rename_i hq
          have h22 : ¬ cS r = sum2 (r.extract 0 4) (cC r) := by
            unfold cS cC cR; rw [HL.out ()]; exact bne_tt _ _ hq
          go_ret3
          exact ⟨ret_v (chV_bad r 22 (chE_22 r ht (by rw [HL.out ()]; exact h21) (by rw [HL.out ()]; exact h20) h22) (by decide)).symm, (below_dn _ _ _).alloc (Nat.le_refl _) _⟩
        · rename_i hq
          have h22 : cS r = sum2 (r.extract 0 4) (cC r) := by
            unfold cS cC cR; rw [HL.out ()]; exact bne_ff _ _ hq
          have hC : cC r = (r.extract 8 r.size).extract 0 L := by unfold cC cR; rw [HL.out ()]
          go_ret3
          refine ⟨ret_v ?_, (below_dn _ _ _).alloc (Nat.le_refl _) _⟩
          rw [chV_ok r (chE_0 r ht (by rw [HL.out ()]; exact h21) (by rw [HL.out ()]; exact h20) h22), hC]
          rfl
      · have HT : Hid _ := Lib.hid (chV_bad r 20 (chE_20 r ht (by rw [HL.out ()]; exact h21) (by rw [HL.out ()]; exact h20)) (by decide))
        go_enter Try.func38, Try.ntmps38
        go_wp2_with fail
        go_quiet (fail)
        go_wp2_with (first
          | (go_at_call 33; refine (isTag_any _ _).mono ?_; rintro e w' ⟨rfl, rfl⟩)
          | (go_at_call 36; (with_reducible refine (HRL.out _).mono ?_); rintro e w' ⟨rfl, rfl⟩))
        all_goals first | (exfalso; omega) | skip
        go_ret3
        exact ⟨ret_v HT.out.symm, below_dn _ _ _⟩
    · have HT : Hid _ := Lib.hid (chV_bad r 21 (chE_21 r ht (by rw [HL.out ()]; exact h21)) (by decide))
      go_enter Try.func38, Try.ntmps38
      go_wp2_with fail
      go_quiet (fail)
      go_wp2_with (first
        | (go_at_call 33; refine (isTag_any _ _).mono ?_; rintro e w' ⟨rfl, rfl⟩)
        | (go_at_call 36; (with_reducible refine (HRL.out _).mono ?_); rintro e w' ⟨rfl, rfl⟩))
      all_goals first | (exfalso; omega) | skip
      go_ret3
      exact ⟨ret_v HT.out.symm, below_dn _ _ _⟩
end Go.Proofs.Ytmfbjmffodnaeaa.Wk
