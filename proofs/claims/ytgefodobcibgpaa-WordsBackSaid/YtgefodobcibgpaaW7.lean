/- The law WordsBack returns true, for every argument. No condition beyond what each theorem states. -/
import Derived.Test.YtgefodobcibgpaaW5
import Derived.Test.YtgefodobcibgpaaM2
import Derived.Deep.DeepCutAuto
namespace Go.Proofs.Ytgefodobcibgpaa.Wk
open Go.ChangeShapes Go.WideShapes Go.ChangeAt Go.RowKit M
set_option linter.unusedVariables false

set_option maxHeartbeats 2000000 in
set_option maxRecDepth 100000 in
theorem WordsBack_walk (n c d o : Int) (w : World) (w0 : (Lit.int .i64 n).wf = true) (w1 : (Lit.int .i64 c).wf = true) (w2 : (Lit.int .i64 d).wf = true) (w3 : (Lit.int .u64 o).wf = true) :
    Calls Try.prog 5 #[.int .i64 n, .int .i64 c, .int .i64 d, .int .u64 o] w fun e w' => e = .returned (.bool true) ∧ Below w.heap.size w w' := by
  obtain ⟨o1, o2⟩ := bounds_u64 w3
  clear w0 w1 w2 w3
  have i1 := smO_is n
  have i2 := chO_is c
  have i3 := obO_is d
  obtain ⟨n1, n2⟩ := smO_bd n
  obtain ⟨c1, c2⟩ := chO_bd c
  obtain ⟨d1, d2⟩ := obO_bd d
  have v1 := Lib.hid (smV_smO n)
  have v2 := Lib.hid (chV_chO c)
  have v3 := Lib.hid (obV_obO d)
  have kk := Lib.hid (kinds2 o o1 o2)
  go_enter Try.func5, Try.ntmps5
  go_upto_region 4 with (first
      | (go_at_call 8; refine (works_any _).mono ?_; rintro e w1 ⟨rfl, b1⟩)
      | (go_at_call 9; refine (small_any _ _).mono ?_; rintro e w' ⟨rfl, rfl⟩)
      | (go_at_call 17; refine (smallOf_any _ _ (by omega) (by omega)).mono ?_; rintro e w' ⟨rfl, rfl⟩))
  go_cut [10, 11, 12, 13, 55] (fun _ _ _ _ s wx => s = .bool false ∧ w1 = wx)
  case first =>
    cases hn : smB n
    · have hs' : ¬ (-1152921504606846976 ≤ n ∧ n ≤ 1152921504606846975) := fun h => by rw [(smB_iff _).2 h] at hn; cases hn
      by_cases h1 : n < -1152921504606846976
      · clear hs'
        go_wp2
        go_meet
        exact ⟨rfl, rfl⟩
      · have h2 : 1152921504606846975 < n := by omega
        have h3 : -1152921504606846976 ≤ n := by omega
        clear hs' h1
        go_wp2
        go_meet
        exact ⟨congrArg Value.bool (by simp; omega), rfl⟩
    · obtain ⟨h1, h2⟩ := (smB_iff n).1 hn
      have v1' := v1.out hn
      go_wp2
      go_meet
      exact ⟨rfl, rfl⟩
  case rest =>
    obtain ⟨rfl, rfl⟩ := hcut
    go_upto_region 8 with (first
      | (go_at_call 11; refine (char_any _ _).mono ?_; rintro e w' ⟨rfl, rfl⟩)
      | (go_at_call 19; refine (charOf_any _ _ (by omega) (by omega)).mono ?_; rintro e w' ⟨rfl, rfl⟩))
    go_cut [10, 11, 13, 14, 76] (fun _ _ _ _ s wx => s = .bool false ∧ w1 = wx)
    case first =>
      cases hn : chB c
      · go_wp2
        go_meet
        exact ⟨rfl, rfl⟩
      · have v2' := v2.out hn
        go_wp2
        go_meet
        exact ⟨rfl, rfl⟩
    case rest =>
      obtain ⟨rfl, rfl⟩ := hcut
      go_upto_region 12 with (first
        | (go_at_call 13; refine (object_any _ _).mono ?_; rintro e w' ⟨rfl, rfl⟩)
        | (go_at_call 21; refine (wordOf_any _ _ (by omega) (by omega)).mono ?_; rintro e w' ⟨rfl, rfl⟩))
      go_cut [10, 11, 13, 15, 97] (fun _ _ _ _ s wx => s = .bool false ∧ w1 = wx)
      case first =>
        cases hn : obB d
        · go_wp2
          go_meet
          exact ⟨rfl, rfl⟩
        · have v3' := v3.out hn
          go_wp2
          go_meet
          exact ⟨rfl, rfl⟩
      case rest =>
        obtain ⟨rfl, rfl⟩ := hcut
        clear i1 i2 i3
        rcases kk.out with ⟨t, k1, k2, k3, k0, x1, x2⟩ | ⟨t, k1, k2, k3, k0, x1, x2⟩ | ⟨t, k1, k2, k3, k0, x1, x2⟩ | ⟨t, k1, k2, k3, k0, x1, x2⟩ | ⟨t, k1, k2, k3, k0, x1, x2⟩
        all_goals
          go_wp2_with (first
            | (go_at_call 9; refine (small_any _ _).mono ?_; rintro e w' ⟨rfl, rfl⟩)
            | (go_at_call 11; refine (char_any _ _).mono ?_; rintro e w' ⟨rfl, rfl⟩)
            | (go_at_call 13; refine (object_any _ _).mono ?_; rintro e w' ⟨rfl, rfl⟩)
            | (go_at_call 15; refine (tag_any _ _ (by omega) (by omega)).mono ?_; rintro e w' ⟨rfl, rfl⟩)
            | (go_at_call 17; refine (smallOf_any _ _ (by omega) (by omega)).mono ?_; rintro e w' ⟨rfl, rfl⟩)
            | (go_at_call 19; refine (charOf_any _ _ (by omega) (by omega)).mono ?_; rintro e w' ⟨rfl, rfl⟩)
            | (go_at_call 21; refine (wordOf_any _ _ (by omega) (by omega)).mono ?_; rintro e w' ⟨rfl, rfl⟩))
          go_ret
          exact ⟨rfl, b1⟩
end Go.Proofs.Ytgefodobcibgpaa.Wk
