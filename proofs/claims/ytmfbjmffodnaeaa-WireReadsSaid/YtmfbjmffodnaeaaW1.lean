/- What lacks, isTag, Tag, read, high, step and the document's Sum answer, for every argument of the sizes that each theorem states. -/
import Derived.Test.YtmfbjmffodnaeaaRows
import Derived.Test.YtmfbjmffodnaeaaM2
import Derived.WalkKit
import Derived.ProofKit
import Derived.OpenShut
import Derived.WalkLawsBesides
import Derived.WalkSpells
import Derived.Lib.Hide
import Derived.LoopTactic
set_option linter.unusedVariables false
namespace Go.Proofs.Ytmfbjmffodnaeaa.Wk
open Go.ChangeShapes Go.WideShapes Go.ChangeAt Go.RowKit M

theorem ret_int {k : IntKind} {a b : Int} (h : a = b) : Ending.returned (.int k a) = .returned (.int k b) := by rw [h]
theorem ret_bool {a b : Bool} (h : a = b) : Ending.returned (.bool a) = .returned (.bool b) := by rw [h]
theorem take_snoc (s : ByteArray) (k : Nat) (h : k < s.size) : s.data.toList.take (k + 1) = s.data.toList.take k ++ [s[k]] := by
  rw [List.take_succ_eq_append_getElem (by simpa using h)]; rfl

set_option maxHeartbeats 400000 in
theorem step_any (c : Nat) (w : World) (hc : c < 4294967296) :
    Calls Try.prog 51 #[.int .u32 c] w fun e w' => e = .returned (.int .u32 (stepN 8 c)) ∧ w = w' := by
  go_enter Try.func51, Try.ntmps51
  go_wp2
  go_loop [0, 4] (fun n i => ∃ k : Nat, k ≤ 8 ∧ i = .int .i64 k ∧ n = .int .u32 (stepN k c)) (fun _ i => 8 - (intOf i).toNat)
  case atStart => exact ⟨0, by omega, rfl, rfl⟩
  case round =>
    obtain ⟨k, hk, rfl, rfl⟩ := hrel
    have hl := stepN_lt k c hc
    by_cases hlt : k < 8
    · go_wp2
      all_goals
        go_round
        case rel =>
          rename_i h1
          rw [and1 _ hl] at h1
          refine ⟨k + 1, by omega, by go_num, ?_⟩
          rcases Nat.mod_two_eq_zero_or_one (stepN k c) with h2 | h2
          · first
              | (rw [step_even _ h2]; rfl)
              | (rw [h2] at h1; exact absurd h1 (by decide))
          · first
              | (rw [step_odd _ hl h2]; rfl)
              | (rw [h2] at h1; exact absurd h1 (by decide))
        case measure => simp [intOf]; omega
    · have hk8 : k = 8 := by omega
      subst hk8
      go_wp2
      go_ret
      exact ⟨rfl, rfl⟩

set_option maxHeartbeats 400000 in
theorem read_any (s : ByteArray) (w : World) (hs : s.size ≤ 8) :
    Calls Try.prog 36 #[.string s] w fun e w' => e = .returned (.int .u64 (high s.data.toList)) ∧ w = w' := by
  go_enter Try.func36, Try.ntmps36
  go_wp2
  go_loop [3, 7] (fun n i => ∃ k : Nat, k ≤ s.size ∧ i = .int .i64 k ∧ n = .int .u64 (high (s.data.toList.take k))) (fun _ i => s.size - (intOf i).toNat)
  case atStart => exact ⟨0, Nat.zero_le _, rfl, rfl⟩
  case round =>
    obtain ⟨k, hk, rfl, rfl⟩ := hrel
    by_cases hlt : k < s.size
    · go_wp2
      go_round
      case rel =>
        refine ⟨k + 1, by omega, by go_num, ?_⟩
        have hl := high_lt (s.data.toList.take k)
        have hk' : (s.data.toList.take k).length = k := by simp; omega
        rw [hk'] at hl
        rw [or_shl _ _ k (by omega) hl s[k].toNat_lt, take_snoc s k hlt, high_snoc, hk']
      case measure => simp [intOf]; omega
    · go_wp2
      go_ret
      exact ⟨ret_int (by rw [List.take_of_length_le (by simp; omega)]), rfl⟩

set_option maxHeartbeats 400000 in
theorem high_any (s : ByteArray) (w : World) (hs : s.size ≤ 8) :
    Calls Try.prog 37 #[.string s] w fun e w' => e = .returned (.int .u64 (high s.data.toList)) ∧ w = w' := by
  go_enter Try.func37, Try.ntmps37
  go_wp2
  go_loop [3, 4] (fun n i => ∃ k : Nat, k ≤ s.size ∧ i = .int .i64 ((k : Int) - 1) ∧ n = .int .u64 (high (s.data.toList.drop k))) (fun _ i => (intOf i + 1).toNat)
  case atStart => exact ⟨s.size, Nat.le_refl _, rfl, by rw [List.drop_of_length_le (by simp)]; rfl⟩
  case round =>
    obtain ⟨k, hk, rfl, rfl⟩ := hrel
    by_cases hlt : 1 ≤ k
    · obtain ⟨j, rfl⟩ : ∃ j, k = j + 1 := ⟨k - 1, by omega⟩
      rw [show (((j + 1 : Nat) : Int) - 1) = (j : Int) by omega]
      go_wp2
      go_round
      case rel =>
        refine ⟨j, by omega, rfl, ?_⟩
        rw [high_step _ _ 0 (by simp; omega), List.drop_eq_getElem_cons (i := j) (by simp; omega)]; rfl
      case measure => simp [intOf]
    · obtain rfl : k = 0 := by omega
      go_wp2
      go_ret
      exact ⟨rfl, rfl⟩

set_option maxHeartbeats 400000 in
theorem isTag_any (s : ByteArray) (w : World) :
    Calls Try.prog 33 #[.string s] w fun e w' => e = .returned (.bool (tagB s)) ∧ w = w' := by
  by_cases h4 : s.size = 4
  · go_enter Try.func33, Try.ntmps33
    go_wp2
    go_loop [7] (fun i => ∃ k : Nat, k ≤ 4 ∧ i = .int .i64 k ∧ (s.data.toList.take k).all okc = true) (fun i => 4 - (intOf i).toNat)
    case atStart => exact ⟨0, by omega, rfl, rfl⟩
    case round =>
      obtain ⟨k, hk, rfl, ha⟩ := hrel
      have HA := Lib.hid ha
      clear ha
      by_cases hlt : k < 4
      · go_wp2
        all_goals
          first
            | (go_round
               case rel => exact ⟨k + 1, by omega, by go_num, all_snoc s k (by omega) HA.out ⟨by omega, by omega⟩⟩
               case measure => simp [intOf]; omega)
            | (go_ret
               exact ⟨ret_bool (tagB_no s k (by omega) (by omega)).symm, rfl⟩)
      · obtain rfl : k = 4 := by omega
        go_wp2
        go_ret
        exact ⟨ret_bool (tagB_yes s h4 HA.out).symm, rfl⟩
  · go_enter Try.func33, Try.ntmps33
    go_wp2
    all_goals first | (exfalso; omega) | skip
    go_ret
    exact ⟨ret_bool (tagB_len s h4).symm, rfl⟩

set_option maxHeartbeats 400000 in
theorem rTag_any (s : ByteArray) (w : World) :
    Calls Try.prog 34 #[.string s] w fun e w' => e = .returned (.bool (tagB s)) ∧ w = w' := by
  by_cases h4 : s.size = 4
  · go_enter Try.func34, Try.ntmps34
    go_wp2
    go_loop [3] (fun i => ∃ k : Nat, k ≤ 4 ∧ i = .int .i64 k ∧ (s.data.toList.take k).all okc = true) (fun i => 4 - (intOf i).toNat)
    case atStart => exact ⟨0, by omega, rfl, rfl⟩
    case round =>
      obtain ⟨k, hk, rfl, ha⟩ := hrel
      have HA := Lib.hid ha
      clear ha
      by_cases hlt : k < 4
      · go_wp2
        all_goals
          first
            | (go_round
               case rel => exact ⟨k + 1, by omega, by go_num, all_snoc s k (by omega) HA.out ⟨by omega, by omega⟩⟩
               case measure => simp [intOf]; omega)
            | (go_ret
               exact ⟨ret_bool (tagB_no s k (by omega) (by omega)).symm, rfl⟩)
      · obtain rfl : k = 4 := by omega
        go_wp2
        go_ret
        exact ⟨ret_bool (tagB_yes s h4 HA.out).symm, rfl⟩
  · go_enter Try.func34, Try.ntmps34
    go_wp2
    all_goals first | (exfalso; omega) | skip
    go_ret
    exact ⟨ret_bool (tagB_len s h4).symm, rfl⟩

set_option maxHeartbeats 400000 in
theorem rsum_any (s : ByteArray) (w : World) (hs : s.size ≤ maxLen) :
    Calls Try.prog 14 #[.string s] w fun e w' => e = .returned (.int .u32 (sumL s.data.toList)) ∧ w = w' := by
  unfold maxLen at hs
  go_enter Try.func14, Try.ntmps14
  go_wp2
  go_loop [3, 4] (fun n i => ∃ k : Nat, k ≤ s.size ∧ i = .int .i64 k ∧ n = .int .u64 (crcL 4294967295 (s.data.toList.take k))) (fun _ i => s.size - (intOf i).toNat)
  case atStart => exact ⟨0, Nat.zero_le _, rfl, rfl⟩
  case round =>
    obtain ⟨k, hk, rfl, rfl⟩ := hrel
    have hl := crcL_lt 4294967295 (s.data.toList.take k) (by omega)
    by_cases hlt : k < s.size
    · have hb := s[k].toNat_lt
      have hx := xor_lt _ _ hl (by omega : s[k].toNat < 4294967296)
      have e1 : IntKind.u64.wrap (s[k].toNat : Int) = s[k].toNat := by rw [IntKind.wrap_u64]; omega
      have hxe := xor64 _ _ hl (by omega : s[k].toNat < 4294967296)
      go_wp2
      go_loop [3, 5] (fun n i => ∃ j : Nat, j ≤ 8 ∧ i = .int .i64 j ∧ n = .int .u64 (stepN j (crcL 4294967295 (s.data.toList.take k) ^^^ s[k].toNat))) (fun _ i => 8 - (intOf i).toNat)
      case atStart => exact ⟨0, by omega, rfl, rfl⟩
      case round =>
        obtain ⟨j, hj, rfl, rfl⟩ := hrel
        have hsl := stepN_lt j _ hx
        by_cases hj8 : j < 8
        · go_wp2
          all_goals
            go_round
            case rel =>
              rename_i h1
              refine ⟨j + 1, by omega, by go_num, ?_⟩
              first
                | (rw [step_even _ (mod1_f _ h1)]; rfl)
                | (rw [step_odd64 _ hsl (mod1_t _ h1)]; rfl)
            case measure => simp [intOf]; omega
        · obtain rfl : j = 8 := by omega
          go_wp2
          go_round
          case rel => exact ⟨k + 1, by omega, by go_num, by rw [crc_take s k hlt]⟩
          case measure => simp [intOf]; omega
    · go_wp2
      go_ret
      exact ⟨ret_int (by rw [← IntKind.wrap_u32', sum_end, List.take_of_length_le (by simp; omega)]), rfl⟩

/-- What stands too near to a text's end, or beyond. -/
def lackE (n at' m : Int) : Int := if at' < 0 ∨ n < at' then 1 else if n - at' < m then 20 else 0
theorem lacks_any (s : ByteArray) (at' m : Int) (w : World) (hs : s.size ≤ maxLen) (ha : -9223372036854775808 ≤ at') (ha2 : at' ≤ 9223372036854775807) (hm : 0 ≤ m) (hm2 : m ≤ 8) :
    Calls Try.prog 35 #[.string s, .int .i64 at', .int .i64 m] w fun e w' => e = .returned (.int .i64 (lackE s.size at' m)) ∧ w = w' := by
  unfold maxLen at hs
  by_cases h0 : at' < 0
  · go_enter Try.func35, Try.ntmps35
    go_wp2
    go_ret
    exact ⟨ret_int (by unfold lackE; rw [if_pos (by omega)]), rfl⟩
  · by_cases h1 : (s.size : Int) < at'
    · go_enter Try.func35, Try.ntmps35
      go_wp2
      all_goals first | (exfalso; omega) | skip
      go_ret
      exact ⟨ret_int (by unfold lackE; rw [if_pos (by omega)]), rfl⟩
    · go_enter Try.func35, Try.ntmps35
      go_wp2
      all_goals first | (exfalso; omega) | skip
      all_goals
        go_ret
        refine ⟨ret_int ?_, rfl⟩
        unfold lackE
        rw [if_neg (by omega)]
        first | (rw [if_pos (by omega)]) | (rw [if_neg (by omega)])
end Go.Proofs.Ytmfbjmffodnaeaa.Wk
