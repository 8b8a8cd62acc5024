/- Plain facts: the walk's spellings of the CRC's step and of bytes put together; chunks. No condition beyond what each theorem states. -/
import Derived.Test.YtmfbjmffodnaeaaM
set_option linter.unusedVariables false
namespace Go.Proofs.Ytmfbjmffodnaeaa.M
open Go

theorem and1 (n : Nat) (h : n < 4294967296) : bits .and .u32 (n : Int) 1 = ((n % 2 : Nat) : Int) := by
  have := u32_and_nat n 1 h (by omega)
  rw [Nat.and_one_is_mod] at this
  exact this
theorem step_odd (n : Nat) (h : n < 4294967296) (ho : n % 2 = 1) : bits .xor .u32 ((n : Int) / 2) 3988292384 = ((step1 n : Nat) : Int) := by
  have h1 := u32_xor_nat (n / 2) 3988292384 (by omega) (by omega)
  have e : ((n : Int) / 2) = ((n / 2 : Nat) : Int) := by omega
  rw [e]; unfold step1; rw [if_pos ho]; exact h1
theorem step_odd64 (n : Nat) (h : n < 4294967296) (ho : n % 2 = 1) : bits .xor .u64 ((n : Int) / 2) 3988292384 = ((step1 n : Nat) : Int) := by
  have h1 := u64_xor_nat (n / 2) 3988292384 (by omega) (by omega)
  have e : ((n : Int) / 2) = ((n / 2 : Nat) : Int) := by omega
  rw [e]; unfold step1; rw [if_pos ho]; exact h1
theorem step_even (n : Nat) (h : n % 2 = 0) : ((n : Int) / 2) = ((step1 n : Nat) : Int) := by
  unfold step1; rw [if_neg (by omega)]; omega

theorem pow256 (k : Nat) : (2 : Int) ^ (8 * k) = ((256 ^ k : Nat) : Int) := by
  rw [Int.pow_mul, Int.natCast_pow]; rfl
theorem pow_le (k : Nat) (h : k < 8) : 256 ^ k ≤ 72057594037927936 := Nat.pow_le_pow_right (by omega) (show k ≤ 7 by omega)
theorem or_shl (a b k : Nat) (hk : k < 8) (ha : a < 256 ^ k) (hb : b < 256) :
    bits .or .u64 (a : Int) (IntKind.u64.wrap (IntKind.u64.wrap (b : Int) * 2 ^ (8 * k))) = ((a + 256 ^ k * b : Nat) : Int) := by
  have hp := pow_le k hk
  have hm : b * 256 ^ k ≤ 255 * 72057594037927936 := Nat.mul_le_mul (by omega) hp
  rw [pow256]
  have e1 : IntKind.u64.wrap (b : Int) = (b : Int) := by rw [IntKind.wrap_u64]; omega
  have e2 : IntKind.u64.wrap ((b : Int) * ((256 ^ k : Nat) : Int)) = ((b * 256 ^ k : Nat) : Int) := by
    rw [IntKind.wrap_u64]; rw [← Int.natCast_mul]; omega
  rw [e1, e2, u64_or_nat a (b * 256 ^ k) (by omega) (by omega), Nat.or_comm]
  have h256 : (256 : Nat) ^ k = 2 ^ (8 * k) := by rw [Nat.pow_mul]
  rw [nat_join (8 * k) (b * 256 ^ k) a (by rw [h256]; exact Nat.mul_mod_left _ _) (by rw [← h256]; exact ha)]
  rw [Nat.mul_comm b, Nat.add_comm]
theorem high_snoc (l : List UInt8) (b : UInt8) : high (l ++ [b]) = high l + 256 ^ l.length * b.toNat := by
  rw [high_append]; simp [high]

/-- A letter from a to z. -/
def okc (c : UInt8) : Bool := decide (97 ≤ c.toNat) && decide (c.toNat ≤ 122)
/-- A tag: four such letters. -/
def tagB (s : ByteArray) : Bool := s.size == 4 && s.data.toList.all okc
theorem okc_iff (c : UInt8) : okc c = true ↔ (97 ≤ (c.toNat : Int) ∧ (c.toNat : Int) ≤ 122) := by unfold okc; simp; omega
theorem tagB_len (s : ByteArray) (h : ¬ s.size = 4) : tagB s = false := by unfold tagB; simp [h]
theorem tagB_no (s : ByteArray) (k : Nat) (hk : k < s.size) (h : ¬ (97 ≤ (s[k].toNat : Int) ∧ (s[k].toNat : Int) ≤ 122)) : tagB s = false := by
  unfold tagB
  have h1 : okc s[k] = false := by
    cases e : okc s[k]
    · rfl
    · exact absurd ((okc_iff _).1 e) h
  have : s.data.toList.all okc = false := by
    rw [List.all_eq_false]
    exact ⟨s[k], by rw [show s[k] = s.data.toList[k]'(by simpa using hk) from rfl]; exact List.getElem_mem _, by simp [h1]⟩
  simp [this]
theorem tagB_yes (s : ByteArray) (h4 : s.size = 4) (h : (s.data.toList.take 4).all okc = true) : tagB s = true := by
  unfold tagB
  rw [List.take_of_length_le (by simp; omega)] at h
  simp [h4, h]
theorem all_snoc (s : ByteArray) (k : Nat) (hk : k < s.size) (h : (s.data.toList.take k).all okc = true) (h2 : 97 ≤ (s[k].toNat : Int) ∧ (s[k].toNat : Int) ≤ 122) : (s.data.toList.take (k + 1)).all okc = true := by
  rw [List.take_succ_eq_append_getElem (by simpa using hk), List.all_append, h]
  have : okc s[k] = true := (okc_iff _).2 h2
  have e : s.data.toList[k]'(by simpa using hk) = s[k] := rfl
  simp [e, this]
theorem high_step (l : List UInt8) (b : UInt8) (n : Nat) (hn : l.length ≤ 7) :
    IntKind.u64.wrap (IntKind.u64.wrap ((high l : Nat) * 256) + IntKind.u64.wrap (b.toNat : Int)) = ((high (b :: l) : Nat) : Int) := by
  have h1 := high_lt l
  have h2 : 256 ^ l.length ≤ 72057594037927936 := Nat.pow_le_pow_right (by omega) hn
  have h3 := b.toNat_lt
  simp only [high, IntKind.wrap_u64]; omega
theorem crc_take (s : ByteArray) (k : Nat) (h : k < s.size) (c : Nat) : crcL c (s.data.toList.take (k + 1)) = stepN 8 (crcL c (s.data.toList.take k) ^^^ s[k].toNat) := by
  rw [List.take_succ_eq_append_getElem (by simpa using h), crcL_snoc]; rfl
theorem mod1_t (n : Nat) (h : ((n : Int) % 2 == 1) = true) : n % 2 = 1 := by
  have : ((n : Int) % 2) = 1 := by simpa using h
  omega
theorem mod1_f (n : Nat) (h : ((n : Int) % 2 == 1) = false) : n % 2 = 0 := by
  have : ¬ ((n : Int) % 2) = 1 := by simpa using h
  omega
theorem sum_end (l : List UInt8) : IntKind.u32.wrap (bits .xor .u64 ((crcL 4294967295 l : Nat) : Int) 4294967295) = ((sumL l : Nat) : Int) := by
  have h := crcL_lt 4294967295 l (by omega)
  rw [show (4294967295 : Int) = ((4294967295 : Nat) : Int) from rfl, xor64 _ _ h (by omega)]
  have := sumL_lt l
  rw [IntKind.wrap_u32']; unfold sumL at *; omega
theorem sum_end32 (l : List UInt8) : bits .xor .u32 ((crcL 4294967295 l : Nat) : Int) 4294967295 = ((sumL l : Nat) : Int) := by
  have h := crcL_lt 4294967295 l (by omega)
  rw [show (4294967295 : Int) = ((4294967295 : Nat) : Int) from rfl, xor32 _ _ h (by omega)]; rfl
/-- Strings' bytes, one behind the other. -/
def flat (xs : List ByteArray) : List UInt8 := xs.flatMap (fun s => s.data.toList)
theorem flat_take (xs : List ByteArray) (k : Nat) (h : k < xs.length) : flat (xs.take (k + 1)) = flat (xs.take k) ++ xs[k].data.toList := by
  unfold flat; rw [List.take_succ_eq_append_getElem h, List.flatMap_append]; simp
theorem flat_all (xs : List ByteArray) (k : Nat) (h : xs.length ≤ k) : flat (xs.take k) = flat xs := by rw [List.take_of_length_le h]
theorem crc_flat (xs : List ByteArray) (k j : Nat) (h : k < xs.length) (hj : j < xs[k].size) (c : Nat) :
    crcB (crcL c (flat (xs.take k) ++ xs[k].data.toList.take j)) xs[k][j] = crcL c (flat (xs.take k) ++ xs[k].data.toList.take (j + 1)) := by
  rw [List.take_succ_eq_append_getElem (by simpa using hj), ← List.append_assoc, crcL_snoc]; rfl
end Go.Proofs.Ytmfbjmffodnaeaa.M
