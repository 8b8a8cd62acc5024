/- A byte of a word is laid anew: plain facts. No text of the program. -/
import Derived.Test.YtklbgccfcfldaaaA
set_option linter.unusedVariables false
namespace Go.Proofs.Ytklbgccfcfldaaa.M
open Go

/-- The word y with the byte b from bit e on. -/
def setBN (y e b : Nat) : Nat := 2 ^ (e + 8) * (y / 2 ^ (e + 8)) + (2 ^ e * b + y % 2 ^ e)
def setB (y : Int) (e : Nat) (b : Int) : Int := (setBN y.toNat e b.toNat : Int)
theorem setBN_test (y e b j : Nat) (hb : b < 256) : (setBN y e b).testBit j = if j < e then y.testBit j else if j < e + 8 then b.testBit (j - e) else y.testBit j := by
  have h1 : y % 2 ^ e < 2 ^ e := Nat.mod_lt _ (Nat.two_pow_pos e)
  have h2 : 2 ^ e * b + y % 2 ^ e < 2 ^ (e + 8) := by
    rw [Nat.pow_add]
    have : 2 ^ e * b ≤ 2 ^ e * 255 := Nat.mul_le_mul_left _ (by omega)
    omega
  unfold setBN
  rw [Nat.testBit_two_pow_mul_add _ h2, Nat.testBit_two_pow_mul_add _ h1, Nat.testBit_mod_two_pow, Nat.testBit_div_two_pow]
  by_cases q1 : j < e
  · have : j < e + 8 := by omega
    simp [q1, this]
  · by_cases q2 : j < e + 8
    · simp [q1, q2]
    · have : e + 8 + (j - (e + 8)) = j := by omega
      have h3 : j - (e + 8) + (e + 8) = j := by omega
      simp [q1, q2, h3]
theorem setB_bits (y b : Int) (e : Nat) (he : e ≤ 56) (h0 : 0 ≤ y) (h2 : y ≤ 18446744073709551615) (b0 : 0 ≤ b) (b2 : b ≤ 255) :
    bits .or .u64 (bits .andNot .u64 y (IntKind.u64.wrap (255 * (2 : Int) ^ e))) (IntKind.u64.wrap (b * (2 : Int) ^ e)) = setB y e b := by
  have hp : (2 : Int) ^ e = ((2 ^ e : Nat) : Int) := by rw [Int.natCast_pow]; rfl
  have hle : 2 ^ e ≤ 2 ^ 56 := Nat.pow_le_pow_right (by omega) he
  have hpos := Nat.two_pow_pos e
  have w1 : IntKind.u64.wrap (255 * (2 : Int) ^ e) = ((255 * 2 ^ e : Nat) : Int) := by rw [IntKind.wrap_u64, hp]; omega
  have w2 : IntKind.u64.wrap (b * (2 : Int) ^ e) = ((b.toNat * 2 ^ e : Nat) : Int) := by
    have hb : b = (b.toNat : Int) := by omega
    have hm : b.toNat * 2 ^ e ≤ 255 * 2 ^ e := Nat.mul_le_mul_right _ (by omega)
    rw [IntKind.wrap_u64, hp]
    rw [hb, ← Int.natCast_mul]
    simp only [Int.toNat_natCast]
    omega
  have hm : b.toNat * 2 ^ e ≤ 255 * 2 ^ e := Nat.mul_le_mul_right _ (by omega)
  rw [w1, w2, u64_andNot _ _ h0 (by omega) (by omega) (by omega), u64_or _ _ (by omega) ?_ (by omega) (by omega)]
  · unfold setB
    congr 1
    simp only [Int.toNat_natCast]
    have hy : y.toNat < 2 ^ 64 := by omega
    have hb : b.toNat < 2 ^ 8 := by omega
    generalize y.toNat = Y at *
    generalize b.toNat = B at *
    have e1 : 18446744073709551615 - 255 * 2 ^ e = 2 ^ 64 - (255 * 2 ^ e + 1) := by omega
    refine Nat.eq_of_testBit_eq fun j => ?_
    rw [setBN_test _ _ _ _ (by omega), Nat.testBit_or, Nat.testBit_and, e1, Nat.testBit_two_pow_sub_succ (by omega), Nat.testBit_mul_two_pow, Nat.testBit_mul_two_pow]
    have hF : (255 : Nat).testBit (j - e) = decide (j - e < 8) := by
      have : (255 : Nat) = 2 ^ 8 - 1 := rfl
      rw [this, Nat.testBit_two_pow_sub_one]
    rw [hF]
    have hyj : 64 ≤ j → Y.testBit j = false := fun q => Nat.testBit_lt_two_pow (Nat.lt_of_lt_of_le hy (Nat.pow_le_pow_right (by omega) q))
    have hbj : 8 ≤ j - e → B.testBit (j - e) = false := fun q => Nat.testBit_lt_two_pow (Nat.lt_of_lt_of_le hb (Nat.pow_le_pow_right (by omega) q))
    by_cases q1 : j < e
    · have q3 : ¬ e ≤ j := by omega
      have q4 : j < 64 := by omega
      simp [q1, q3, q4]
    · have q3 : e ≤ j := by omega
      by_cases q2 : j < e + 8
      · have q5 : j - e < 8 := by omega
        simp [q1, q2, q3, q5]
      · have q5 : ¬ j - e < 8 := by omega
        have := hbj (by omega)
        by_cases q6 : j < 64
        · simp [q1, q2, q3, q5, q6, this]
        · simp [q1, q2, q3, q5, this, hyj (by omega)]
  · have := Nat.and_le_left (n := y.toNat) (m := 18446744073709551615 - (255 * 2 ^ e))
    simp only [Int.toNat_natCast]
    omega
theorem setB_bd (y b : Int) (e : Nat) (he : e ≤ 56) (h0 : 0 ≤ y) (h2 : y ≤ 18446744073709551615) (b0 : 0 ≤ b) (b2 : b ≤ 255) : 0 ≤ setB y e b ∧ setB y e b ≤ 18446744073709551615 := by
  unfold setB
  refine ⟨by omega, ?_⟩
  have : setBN y.toNat e b.toNat < 2 ^ 64 := by
    refine Nat.lt_pow_two_of_testBit _ fun j hj => ?_
    rw [setBN_test _ _ _ _ (by omega), if_neg (by omega), if_neg (by omega)]
    exact Nat.testBit_lt_two_pow (Nat.lt_of_lt_of_le (by omega : y.toNat < 2 ^ 64) (Nat.pow_le_pow_right (by omega) hj))
  omega
/-- The byte is read back. -/
theorem setB_get (y b : Int) (e : Nat) (b0 : 0 ≤ b) (b2 : b ≤ 255) : setB y e b / (2 : Int) ^ e % 256 = b := by
  have hp : (2 : Int) ^ e = ((2 ^ e : Nat) : Int) := by rw [Int.natCast_pow]; rfl
  unfold setB
  rw [hp, ← Int.natCast_ediv]
  have hpos := Nat.two_pow_pos e
  have : setBN y.toNat e b.toNat / 2 ^ e = 256 * (y.toNat / 2 ^ (e + 8)) + b.toNat := by
    unfold setBN
    have e1 : 2 ^ (e + 8) * (y.toNat / 2 ^ (e + 8)) + (2 ^ e * b.toNat + y.toNat % 2 ^ e) = y.toNat % 2 ^ e + 2 ^ e * (256 * (y.toNat / 2 ^ (e + 8)) + b.toNat) := by
      generalize y.toNat / 2 ^ (e + 8) = q
      rw [Nat.pow_add, show (2 : Nat) ^ 8 = 256 from rfl, Nat.mul_add, ← Nat.mul_assoc]; omega
    rw [e1, Nat.add_mul_div_left _ _ hpos, Nat.div_eq_of_lt (Nat.mod_lt _ hpos), Nat.zero_add]
  rw [this]; omega
end Go.Proofs.Ytklbgccfcfldaaa.M
