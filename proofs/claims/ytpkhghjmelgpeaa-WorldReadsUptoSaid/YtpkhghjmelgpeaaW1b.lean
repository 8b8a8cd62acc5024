/- What the document's Name answers: as the program's. -/
import Derived.Test.YtpkhghjmelgpeaaW1
set_option linter.unusedVariables false
namespace Go.Proofs.Ytpkhghjmelgpeaa.Wk
open Go.ChangeShapes Go.WideShapes Go.ChangeAt Go.RowKit M

set_option maxHeartbeats 2000000 in
theorem rName_any (s : ByteArray) (w : World) (hs : s.size ≤ maxLen) : Calls Try.prog 14 #[.string s] w fun e w' => e = .returned (.bool (isName s)) ∧ w = w' := by
  unfold maxLen at hs
  go_enter Try.func14, Try.ntmps14
  go_wp2
  all_goals first
    | (go_ret; exact ⟨ret_b (name_short (by omega)).symm, rfl⟩)
    | (go_ret; exact ⟨ret_b (name_long (by omega)).symm, rfl⟩)
    | skip
  · go_loop [3] (fun i => ∃ k : Nat, k ≤ s.size ∧ i = .int .i64 k ∧ upTo s k) (fun i => s.size - (intOf i).toNat)
    case atStart => exact ⟨0, Nat.zero_le _, rfl, upTo_0 s⟩
    case round =>
      obtain ⟨k, hk, rfl, hu⟩ := hrel
      have HU := Lib.hid hu
      clear hu
      by_cases hlt : k < s.size
      · have h0 : (0 : Int) ≤ s[k].toNat := by omega
        have h1 : (s[k].toNat : Int) ≤ 255 := by have := s[k].toNat_lt; omega
        go_wp2
        all_goals try simp only [Bool.not_eq_true', decide_eq_false_iff_not, beq_eq_false_iff_ne, ne_eq, Bool.not_eq_false', decide_eq_true_eq, beq_iff_eq] at *
        all_goals first
          | (have hb := (nb_t (c := s[k]) (by omega)).symm
             go_round
             case rel => exact ⟨k + 1, by omega, by go_num, upTo_succ HU.out hlt hb⟩
             case measure => simp [intOf]; omega)
          | (have hb := (nb_f (c := s[k]) (by omega)).symm
             go_ret
             exact ⟨ret_b (name_bad hlt hb).symm, rfl⟩)
      · obtain rfl : k = s.size := by omega
        go_wp2
        go_ret
        exact ⟨ret_b (name_good (by omega) (by omega) HU.out).symm, rfl⟩
end Go.Proofs.Ytpkhghjmelgpeaa.Wk
