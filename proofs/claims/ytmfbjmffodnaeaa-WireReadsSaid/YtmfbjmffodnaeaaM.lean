/- Plain facts: numbers as bytes, the CRC-32 of bytes, chunks as bytes and read back. No condition beyond what each theorem states. -/
import Derived.Laws.BitsAllLaws
import Derived.Laws.Bits64
import Derived.IntWalk
set_option linter.unusedVariables false
namespace Go.Proofs.Ytmfbjmffodnaeaa.M
open Go

/-! ### Numbers as bytes -/
/-- The lowest k bytes of a number, the lowest first. -/
def low : Nat → Nat → List UInt8
  | 0, _ => []
  | k + 1, n => UInt8.ofNat (n % 256) :: low k (n / 256)
/-- The number that bytes are, the lowest first. -/
def high : List UInt8 → Nat
  | [] => 0
  | b :: l => b.toNat + 256 * high l

theorem low_len (k n : Nat) : (low k n).length = k := by
  induction k generalizing n with
  | zero => rfl
  | succ k ih => simp [low, ih]
theorem toNat_ofNat (n : Nat) (h : n < 256) : (UInt8.ofNat n).toNat = n := by
  simp [UInt8.toNat_ofNat']; omega
theorem high_low (k n : Nat) (h : n < 256 ^ k) : high (low k n) = n := by
  induction k generalizing n with
  | zero => simp [low, high]; simp at h; omega
  | succ k ih =>
    simp only [low, high]
    rw [toNat_ofNat _ (by omega), ih _ (by rw [Nat.pow_succ] at h; omega)]
    omega
theorem high_lt (l : List UInt8) : high l < 256 ^ l.length := by
  induction l with
  | nil => simp [high]
  | cons b l ih =>
    simp only [high, List.length_cons, Nat.pow_succ]
    have := b.toNat_lt
    omega
theorem low_high (l : List UInt8) : low l.length (high l) = l := by
  induction l with
  | nil => rfl
  | cons b l ih =>
    have hb := b.toNat_lt
    simp only [List.length_cons, low, high]
    rw [show (b.toNat + 256 * high l) % 256 = b.toNat by omega, show (b.toNat + 256 * high l) / 256 = high l by omega, ih]
    simp
theorem low_snoc (k n : Nat) : low (k + 1) n = low k n ++ [UInt8.ofNat (n / 256 ^ k % 256)] := by
  induction k generalizing n with
  | zero => simp [low]
  | succ k ih =>
    rw [low, ih]
    simp only [low, List.cons_append]
    rw [Nat.div_div_eq_div_mul, Nat.pow_succ, Nat.mul_comm 256]
theorem high_append (l m : List UInt8) : high (l ++ m) = high l + 256 ^ l.length * high m := by
  induction l with
  | nil => simp [high]
  | cons b l ih =>
    simp only [List.cons_append, high, ih, List.length_cons, Nat.pow_succ]
    rw [Nat.mul_add, ← Nat.mul_assoc, Nat.mul_comm 256 (256 ^ l.length)]
    omega
theorem high_inj (l m : List UInt8) (h : l.length = m.length) (he : high l = high m) : l = m := by
  rw [← low_high l, ← low_high m, h, he]

/-! ### The CRC-32 -/
def step1 (c : Nat) : Nat := if c % 2 = 1 then (c / 2) ^^^ 3988292384 else c / 2
def stepN : Nat → Nat → Nat
  | 0, c => c
  | k + 1, c => step1 (stepN k c)
def crcB (c : Nat) (b : UInt8) : Nat := stepN 8 (c ^^^ b.toNat)
def crcL (c : Nat) (l : List UInt8) : Nat := l.foldl crcB c
/-- The sum of bytes. -/
def sumL (l : List UInt8) : Nat := crcL 4294967295 l ^^^ 4294967295

theorem xor_lt (a b : Nat) (h : a < 4294967296) (h2 : b < 4294967296) : a ^^^ b < 4294967296 :=
  Nat.xor_lt_two_pow (n := 32) (by omega) (by omega)
theorem step1_lt (c : Nat) (h : c < 4294967296) : step1 c < 4294967296 := by
  unfold step1; split
  · exact xor_lt _ _ (by omega) (by omega)
  · omega
theorem stepN_lt (k c : Nat) (h : c < 4294967296) : stepN k c < 4294967296 := by
  induction k with
  | zero => exact h
  | succ k ih => exact step1_lt _ ih
theorem crcB_lt (c : Nat) (b : UInt8) (h : c < 4294967296) : crcB c b < 4294967296 :=
  stepN_lt _ _ (xor_lt _ _ h (by have := b.toNat_lt; omega))
theorem crcL_lt (c : Nat) (l : List UInt8) (h : c < 4294967296) : crcL c l < 4294967296 := by
  induction l generalizing c with
  | nil => exact h
  | cons b l ih => exact ih _ (crcB_lt _ _ h)
theorem sumL_lt (l : List UInt8) : sumL l < 4294967296 := xor_lt _ _ (crcL_lt _ _ (by omega)) (by omega)
theorem crcL_append (c : Nat) (l m : List UInt8) : crcL c (l ++ m) = crcL (crcL c l) m := List.foldl_append
theorem crcL_snoc (c : Nat) (l : List UInt8) (b : UInt8) : crcL c (l ++ [b]) = crcB (crcL c l) b := by rw [crcL_append]; rfl
theorem xor_cancel (a b c : Nat) (h : a ^^^ c = b ^^^ c) : a = b := by
  have : (a ^^^ c) ^^^ c = (b ^^^ c) ^^^ c := by rw [h]
  simpa [Nat.xor_assoc] using this
theorem xor_cancel' (a b c : Nat) (h : c ^^^ a = c ^^^ b) : a = b := by
  rw [Nat.xor_comm c a, Nat.xor_comm c b] at h; exact xor_cancel _ _ _ h
theorem top_of (c : Nat) (h : c < 4294967296) : (step1 c).testBit 31 = decide (c % 2 = 1) := by
  have hd : (c / 2).testBit 31 = false := Nat.testBit_lt_two_pow (by omega)
  unfold step1; split
  · rename_i h1
    rw [Nat.testBit_xor, hd, h1]; decide
  · rename_i h1
    rw [hd]; simp [h1]
theorem step1_inj (a b : Nat) (ha : a < 4294967296) (hb : b < 4294967296) (h : step1 a = step1 b) : a = b := by
  have ht : decide (a % 2 = 1) = decide (b % 2 = 1) := by rw [← top_of a ha, ← top_of b hb, h]
  have ht' : (a % 2 = 1) ↔ (b % 2 = 1) := by simpa using ht
  unfold step1 at h
  by_cases h1 : a % 2 = 1
  · rw [if_pos h1, if_pos (ht'.1 h1)] at h
    have := xor_cancel _ _ _ h
    have := ht'.1 h1
    omega
  · have h2 : ¬ b % 2 = 1 := fun e => h1 (ht'.2 e)
    rw [if_neg h1, if_neg h2] at h
    omega
theorem stepN_inj (k a b : Nat) (ha : a < 4294967296) (hb : b < 4294967296) (h : stepN k a = stepN k b) : a = b := by
  induction k with
  | zero => exact h
  | succ k ih => exact ih (step1_inj _ _ (stepN_lt _ _ ha) (stepN_lt _ _ hb) h)
theorem crcB_inj (a b : Nat) (x : UInt8) (ha : a < 4294967296) (hb : b < 4294967296) (h : crcB a x = crcB b x) : a = b :=
  xor_cancel _ _ _ (stepN_inj 8 _ _ (xor_lt _ _ ha (by have := x.toNat_lt; omega)) (xor_lt _ _ hb (by have := x.toNat_lt; omega)) h)
theorem crcB_byte (c : Nat) (x y : UInt8) (hc : c < 4294967296) (h : crcB c x = crcB c y) : x = y := by
  have := xor_cancel' _ _ _ (stepN_inj 8 _ _ (xor_lt _ _ hc (by have := x.toNat_lt; omega)) (xor_lt _ _ hc (by have := y.toNat_lt; omega)) h)
  exact UInt8.toNat_inj.1 this
theorem crcL_inj (a b : Nat) (l : List UInt8) (ha : a < 4294967296) (hb : b < 4294967296) (h : crcL a l = crcL b l) : a = b := by
  induction l generalizing a b with
  | nil => exact h
  | cons x l ih => exact crcB_inj _ _ x ha hb (ih _ _ (crcB_lt _ _ ha) (crcB_lt _ _ hb) h)
/-- One byte changed: another sum. -/
theorem sum_harm (l m : List UInt8) (x y : UInt8) (h : sumL (l ++ x :: m) = sumL (l ++ y :: m)) : x = y := by
  have h1 := xor_cancel _ _ _ h
  rw [crcL_append, crcL_append] at h1
  have hl := crcL_lt 4294967295 l (by omega)
  have h2 : crcB (crcL 4294967295 l) x = crcB (crcL 4294967295 l) y := crcL_inj _ _ m (crcB_lt _ _ hl) (crcB_lt _ _ hl) h1
  exact crcB_byte _ _ _ hl h2

/-! ### The same, as the walk spells it -/
theorem xor32 (a b : Nat) (ha : a < 4294967296) (hb : b < 4294967296) : bits .xor .u32 (a : Int) (b : Int) = ((a ^^^ b : Nat) : Int) := u32_xor_nat a b ha hb
theorem xor64 (a b : Nat) (ha : a < 4294967296) (hb : b < 4294967296) : bits .xor .u64 (a : Int) (b : Int) = ((a ^^^ b : Nat) : Int) := u64_xor_nat a b (by omega) (by omega)

end Go.Proofs.Ytmfbjmffodnaeaa.M
