/- Plain facts on integers: the tags of words, oops of numbers, the fields of a header's first word. No condition beyond what each theorem states. -/
import Derived.Laws.BitsAllLaws
import Derived.Laws.Bits64
import Derived.IntWalk
namespace Go.Proofs.Ytklbgccfcfldaaa.M
open Go

/-- The kind of a word, by remainders. -/
def tagN (o : Int) : Int :=
  if o = 0 then 0 else if o % 8 = 1 then 1 else if o % 8 = 2 ∧ o / 8 ≤ 2097151 then 2 else if o % 8 = 0 ∧ o / 8 ≤ 268435455 then 3 else 4

theorem and7 (n : Int) (h : 0 ≤ n) (h2 : n ≤ 18446744073709551615) : bits .and .u64 n 7 = n % 8 := by
  rw [u64_and n 7 h (by omega) (by omega) (by omega)]
  have : n.toNat &&& (7 : Int).toNat = n.toNat % 8 := nat_mask3 n.toNat
  rw [this]; omega

theorem or_low (a b : Int) (h : 0 ≤ a) (h2 : a ≤ 18446744073709551615) (h8 : a % 8 = 0) (hb : 0 ≤ b) (hb2 : b < 8) : bits .or .u64 a b = a + b := by
  rw [u64_or a b h (by omega) (by omega) (by omega)]
  rw [nat_join 3 a.toNat b.toNat (by omega) (by omega)]; omega

/-- The oop of a number. -/
def oopS (n : Int) : Int := (8 * n + 1) % 18446744073709551616

theorem oopS_bits (n : Int) : bits .or .u64 (IntKind.u64.wrap (IntKind.u64.wrap n * 8)) 1 = oopS n := by
  simp only [IntKind.wrap_u64]
  rw [or_low _ 1 (by omega) (by omega) (by omega) (by omega) (by omega)]
  unfold oopS; omega
theorem oopS_wrap (n : Int) : IntKind.u64.wrap (8 * n + 1) = oopS n := by
  simp only [IntKind.wrap_u64]; rfl
theorem oopS_bd (n : Int) : 0 ≤ oopS n ∧ oopS n ≤ 18446744073709551615 := by unfold oopS; omega

/-- The number of an oop. -/
def smV (o : Int) : Int := if o % 8 = 1 then (if 1152921504606846975 < o / 8 then o / 8 - 2305843009213693952 else o / 8) else 0
def chV (o : Int) : Int := if tagN o = 2 then o / 8 else 0
def obV (o : Int) : Int := if tagN o = 3 then o / 8 else 0

/-- Is the word's kind k? -/
def isK (k o : Int) : Bool := tagN o == k
def smB (n : Int) : Bool := decide (-1152921504606846976 ≤ n ∧ n ≤ 1152921504606846975)
def smO (n : Int) : Int := if smB n then oopS n else 0
def chB (n : Int) : Bool := decide (0 ≤ n ∧ n ≤ 2097151)
def chO (n : Int) : Int := if chB n then 8 * n + 2 else 0
def obB (n : Int) : Bool := decide (1 ≤ n ∧ n ≤ 268435455)
def obO (n : Int) : Int := if obB n then 8 * n else 0

theorem smO_bd (n : Int) : 0 ≤ smO n ∧ smO n ≤ 18446744073709551615 := by unfold smO; have := oopS_bd n; split <;> omega
theorem chO_bd (n : Int) : 0 ≤ chO n ∧ chO n ≤ 18446744073709551615 := by
  unfold chO; split
  · rename_i h; unfold chB at h; simp at h; omega
  · omega
theorem obO_bd (n : Int) : 0 ≤ obO n ∧ obO n ≤ 18446744073709551615 := by
  unfold obO; split
  · rename_i h; unfold obB at h; simp at h; omega
  · omega

theorem tag1 (n : Int) : tagN n = 1 ↔ n % 8 = 1 := by
  unfold tagN; repeat' split
  all_goals omega
theorem isK1 (n : Int) : isK 1 n = (n % 8 == 1) := by
  unfold isK; rw [Bool.eq_iff_iff]; simp [tag1]
theorem smV_shift (n : Int) (h : 0 ≤ n) (h2 : n ≤ 18446744073709551615) (ht : isK 1 n = true) : RowKit.wrap64 n / 8 = smV n := by
  rw [isK1] at ht; simp at ht
  rw [← IntWalk.i64_left, IntKind.wrap_i64]; unfold smV; rw [if_pos ht]; split <;> omega
theorem smV_no (n : Int) (ht : isK 1 n = false) : smV n = 0 := by
  rw [isK1] at ht; simp at ht; unfold smV; rw [if_neg ht]
theorem chV_y (n : Int) (ht : isK 2 n = true) : chV n = n / 8 := by unfold isK at ht; simp at ht; unfold chV; rw [if_pos ht]
theorem chV_n (n : Int) (ht : isK 2 n = false) : chV n = 0 := by unfold isK at ht; simp at ht; unfold chV; rw [if_neg ht]
theorem obV_y (n : Int) (ht : isK 3 n = true) : obV n = n / 8 := by unfold isK at ht; simp at ht; unfold obV; rw [if_pos ht]
theorem obV_n (n : Int) (ht : isK 3 n = false) : obV n = 0 := by unfold isK at ht; simp at ht; unfold obV; rw [if_neg ht]
theorem bne_of (k n : Int) : (tagN n != k) = !isK k n := by unfold isK; rfl


/-! ### Headers -/
/-- Between 0 and m. -/
def inB (n m : Int) : Bool := decide (0 ≤ n ∧ n ≤ m)
def suB (f sp sl : Int) : Bool :=
  decide ((f = 6 ∧ 1 ≤ sl ∧ (sp = 0 ∨ 2 ≤ sl)) ∨ (f = 5 ∧ 0 ≤ sl ∧ (sp = 0 ∨ 1 ≤ sl)) ∨ (f = 3 ∧ 1 ≤ sl ∧ sp = 0) ∨ ((f = 1 ∨ f = 2 ∨ f = 4) ∧ 0 ≤ sl ∧ sp = 0))
def hdB (c f s h a l : Int) : Bool := inB c 4095 && inB s 7 && inB h 4194303 && inB a 15 && inB l 65536 && suB f s l
theorem inB_iff (n m : Int) : inB n m = true ↔ (0 ≤ n ∧ n ≤ m) := by unfold inB; simp
theorem suB_iff (f sp sl : Int) : suB f sp sl = true ↔ ((f = 6 ∧ 1 ≤ sl ∧ (sp = 0 ∨ 2 ≤ sl)) ∨ (f = 5 ∧ 0 ≤ sl ∧ (sp = 0 ∨ 1 ≤ sl)) ∨ (f = 3 ∧ 1 ≤ sl ∧ sp = 0) ∨ ((f = 1 ∨ f = 2 ∨ f = 4) ∧ 0 ≤ sl ∧ sp = 0)) := by unfold suB; simp
theorem hdB_iff (c f s h a l : Int) : hdB c f s h a l = true ↔ ((0 ≤ c ∧ c ≤ 4095) ∧ (0 ≤ s ∧ s ≤ 7) ∧ (0 ≤ h ∧ h ≤ 4194303) ∧ (0 ≤ a ∧ a ≤ 15) ∧ (0 ≤ l ∧ l ≤ 65536) ∧
    ((f = 6 ∧ 1 ≤ l ∧ (s = 0 ∨ 2 ≤ l)) ∨ (f = 5 ∧ 0 ≤ l ∧ (s = 0 ∨ 1 ≤ l)) ∨ (f = 3 ∧ 1 ≤ l ∧ s = 0) ∨ ((f = 1 ∨ f = 2 ∨ f = 4) ∧ 0 ≤ l ∧ s = 0))) := by
  unfold hdB; simp only [Bool.and_eq_true, inB_iff, suB_iff, and_assoc]
def bit (b : Bool) : Int := if b then 1 else 0
def packA (c f s h a : Int) (m n : Bool) : Int := c + f * 4096 + s * 32768 + h * 262144 + a * 1099511627776 + bit m * 17592186044416 + bit n * 35184372088832
theorem bit_bd (b : Bool) : 0 ≤ bit b ∧ bit b ≤ 1 := by cases b <;> decide
/-- A low part beside a high part. -/
theorem or_join (i : Nat) (x y : Int) (hx : 0 ≤ x) (hy : 0 ≤ y) (hx2 : x < ((2 ^ i : Nat) : Int)) (hy2 : y % ((2 ^ i : Nat) : Int) = 0) (hx3 : x ≤ 18446744073709551615) (hy3 : y ≤ 18446744073709551615) :
    bits .or .u64 x y = x + y := by
  rw [u64_or x y hx (by omega) hy (by omega), Nat.or_comm, nat_join i y.toNat x.toNat ?_ (by omega)]
  · omega
  · have : ((y.toNat % 2 ^ i : Nat) : Int) = 0 := by rw [Int.natCast_emod, Int.toNat_of_nonneg hy]; exact hy2
    exact_mod_cast this
theorem packA_bits (c f s h a : Int) (m n : Bool) (h1 : 0 ≤ c) (h2 : c ≤ 4095) (h3 : 0 ≤ f) (h4 : f ≤ 6) (h5 : 0 ≤ s) (h6 : s ≤ 7) (h7 : 0 ≤ h) (h8 : h ≤ 4194303) (h9 : 0 ≤ a) (h10 : a ≤ 15) :
    bits .or .u64 (bits .or .u64 (bits .or .u64 (bits .or .u64 (bits .or .u64 (bits .or .u64 c (f * 4096)) (s * 32768)) (h * 262144)) (a * 1099511627776)) (bit m * 17592186044416)) (bit n * 35184372088832) = packA c f s h a m n := by
  have hm := bit_bd m
  have hn := bit_bd n
  rw [or_join 12 c (f * 4096) (by omega) (by omega) (by omega) (by omega) (by omega) (by omega)]
  rw [or_join 15 _ (s * 32768) (by omega) (by omega) (by omega) (by omega) (by omega) (by omega)]
  rw [or_join 18 _ (h * 262144) (by omega) (by omega) (by omega) (by omega) (by omega) (by omega)]
  rw [or_join 40 _ (a * 1099511627776) (by omega) (by omega) (by omega) (by omega) (by omega) (by omega)]
  rw [or_join 44 _ (bit m * 17592186044416) (by omega) (by omega) (by omega) (by omega) (by omega) (by omega)]
  rw [or_join 45 _ (bit n * 35184372088832) (by omega) (by omega) (by omega) (by omega) (by omega) (by omega)]
  rfl
theorem packA_bd (c f s h a : Int) (m n : Bool) (h1 : 0 ≤ c) (h2 : c ≤ 4095) (h3 : 0 ≤ f) (h4 : f ≤ 6) (h5 : 0 ≤ s) (h6 : s ≤ 7) (h7 : 0 ≤ h) (h8 : h ≤ 4194303) (h9 : 0 ≤ a) (h10 : a ≤ 15) :
    0 ≤ packA c f s h a m n ∧ packA c f s h a m n ≤ 70368744177663 := by
  have hm := bit_bd m
  have hn := bit_bd n
  unfold packA; omega
/-! ### The fields of a word -/
def uC (a : Int) : Int := a % 4096
def uF (a : Int) : Int := a / 4096 % 8
def uS (a : Int) : Int := a / 32768 % 8
def uH (a : Int) : Int := a / 262144 % 4194304
def uA (a : Int) : Int := a / 1099511627776 % 16
def uM (a : Int) : Bool := a / 17592186044416 % 2 == 1
def uN (a : Int) : Bool := a / 35184372088832 == 1
def unB (a b : Int) : Bool := decide (a ≤ 70368744177663) && decide (b ≤ 65536) && hdB (uC a) (uF a) (uS a) (uH a) (uA a) b
theorem mask (x m : Int) (k : Nat) (hm : m = ((2 ^ k - 1 : Nat) : Int)) (hk : k ≤ 64) (h : 0 ≤ x) (h2 : x ≤ 18446744073709551615) : bits .and .u64 x m = x % ((2 ^ k : Nat) : Int) := by
  have hp : 2 ^ k ≤ 2 ^ 64 := Nat.pow_le_pow_right (by omega) hk
  have hp1 : 1 ≤ 2 ^ k := Nat.one_le_two_pow
  subst hm
  rw [u64_and x _ h (by omega) (by omega) (by omega)]
  rw [Int.toNat_natCast, Nat.and_two_pow_sub_one_eq_mod, Int.natCast_emod, Int.toNat_of_nonneg h]
theorem uM_mask (a : Int) : (a / 17592186044416 % 2 != 0) = uM a := by
  unfold uM; rw [Bool.eq_iff_iff]; simp; omega
theorem uN_mask (a : Int) (h : 0 ≤ a) (h2 : a ≤ 70368744177663) : (a / 35184372088832 % 2 != 0) = uN a := by
  unfold uN; rw [Bool.eq_iff_iff]; simp; omega
theorem u_bd (a : Int) : (0 ≤ uC a ∧ uC a ≤ 4095) ∧ (0 ≤ uF a ∧ uF a ≤ 7) ∧ (0 ≤ uS a ∧ uS a ≤ 7) ∧ (0 ≤ uH a ∧ uH a ≤ 4194303) ∧ (0 ≤ uA a ∧ uA a ≤ 15) := by
  unfold uC uF uS uH uA; omega
theorem u_pack (c f s h a : Int) (m n : Bool) (h1 : 0 ≤ c) (h2 : c ≤ 4095) (h3 : 0 ≤ f) (h4 : f ≤ 6) (h5 : 0 ≤ s) (h6 : s ≤ 7) (h7 : 0 ≤ h) (h8 : h ≤ 4194303) (h9 : 0 ≤ a) (h10 : a ≤ 15) :
    uC (packA c f s h a m n) = c ∧ uF (packA c f s h a m n) = f ∧ uS (packA c f s h a m n) = s ∧ uH (packA c f s h a m n) = h ∧ uA (packA c f s h a m n) = a ∧ uM (packA c f s h a m n) = m ∧ uN (packA c f s h a m n) = n := by
  unfold uC uF uS uH uA uM uN packA
  refine ⟨?_, ?_, ?_, ?_, ?_, ?_, ?_⟩
  all_goals cases m <;> cases n <;> simp [bit] <;> omega
theorem pack_u (a : Int) (h : 0 ≤ a) (h2 : a ≤ 70368744177663) : packA (uC a) (uF a) (uS a) (uH a) (uA a) (uM a) (uN a) = a := by
  have e1 : bit (uM a) = a / 17592186044416 % 2 := by
    unfold uM bit; split
    · rename_i h; simp at h; omega
    · rename_i h; simp at h; omega
  have e2 : bit (uN a) = a / 35184372088832 := by
    unfold uN bit; split
    · rename_i h; simp at h; omega
    · rename_i h; simp at h; omega
  unfold packA; rw [e1, e2]; unfold uC uF uS uH uA; omega
/-! ### The order -/
theorem smB_iff (n : Int) : smB n = true ↔ (-1152921504606846976 ≤ n ∧ n ≤ 1152921504606846975) := by unfold smB; simp
theorem smO_wrap (n : Int) (h : smB n = true) : RowKit.wrap64 (smO n) = 8 * n + 1 := by
  have hb := (smB_iff n).1 h
  unfold smO; rw [if_pos h]; unfold oopS RowKit.wrap64; omega
theorem smO_lt (n m : Int) (h : smB n = true) (g : smB m = true) : (RowKit.wrap64 (smO n) < RowKit.wrap64 (smO m)) = (n < m) := by
  rw [smO_wrap n h, smO_wrap m g]; apply propext; omega
theorem smO_eq (n m : Int) (h : smB n = true) (g : smB m = true) : (smO n == smO m) = (n == m) := by
  have h' := (smB_iff n).1 h
  have g' := (smB_iff m).1 g
  rw [Bool.eq_iff_iff]; simp only [beq_iff_eq]
  unfold smO; rw [if_pos h, if_pos g]; unfold oopS; omega
theorem smO_sum (n m : Int) (h : smB n = true) (g : smB m = true) (k : smB (n + m) = true) : IntKind.u64.wrap (IntKind.u64.wrap (smO n + smO m) - 1) = smO (n + m) := by
  unfold smO; rw [if_pos h, if_pos g, if_pos k]; simp only [IntKind.wrap_u64]; unfold oopS; omega
theorem smO_no (n : Int) (h : smB n = false) : smO n = 0 := by unfold smO; rw [h]; rfl
theorem chO_no (n : Int) (h : chB n = false) : chO n = 0 := by unfold chO; rw [h]; rfl
theorem obO_no (n : Int) (h : obB n = false) : obO n = 0 := by unfold obO; rw [h]; rfl
theorem chB_iff (n : Int) : chB n = true ↔ (0 ≤ n ∧ n ≤ 2097151) := by unfold chB; simp
theorem obB_iff (n : Int) : obB n = true ↔ (1 ≤ n ∧ n ≤ 268435455) := by unfold obB; simp
theorem isK_iff (k o : Int) : isK k o = true ↔ tagN o = k := by unfold isK; simp
theorem tag2 (o : Int) : tagN o = 2 ↔ (o % 8 = 2 ∧ o / 8 ≤ 2097151) := by
  unfold tagN; repeat' split
  all_goals omega
theorem tag3 (o : Int) : tagN o = 3 ↔ (o ≠ 0 ∧ o % 8 = 0 ∧ o / 8 ≤ 268435455) := by
  unfold tagN; repeat' split
  all_goals omega
theorem tag0 (o : Int) : tagN o = 0 ↔ o = 0 := by
  unfold tagN; repeat' split
  all_goals omega
theorem tag_le (o : Int) : 0 ≤ tagN o ∧ tagN o ≤ 4 := by
  unfold tagN; repeat' split
  all_goals omega
theorem smO_is (n : Int) : isK 1 (smO n) = smB n := by
  cases h : smB n
  · rw [smO_no n h]; rfl
  · rw [isK_iff, tag1]; unfold smO; rw [if_pos h]; unfold oopS; omega
theorem smV_smO (n : Int) (h : smB n = true) : smV (smO n) = n := by
  have h' := (smB_iff n).1 h
  unfold smO; rw [if_pos h]; unfold smV oopS; split <;> (try split) <;> omega
theorem chO_is (n : Int) : isK 2 (chO n) = chB n := by
  cases h : chB n
  · rw [chO_no n h]; rfl
  · have h' := (chB_iff n).1 h
    rw [isK_iff, tag2]; unfold chO; rw [if_pos h]; omega
theorem chV_chO (n : Int) (h : chB n = true) : chV (chO n) = n := by
  have h' := (chB_iff n).1 h
  have := chO_is n
  rw [h] at this
  rw [chV_y _ this]; unfold chO; rw [if_pos h]; omega
theorem obO_is (n : Int) : isK 3 (obO n) = obB n := by
  cases h : obB n
  · rw [obO_no n h]; rfl
  · have h' := (obB_iff n).1 h
    rw [isK_iff, tag3]; unfold obO; rw [if_pos h]; omega
theorem obV_obO (n : Int) (h : obB n = true) : obV (obO n) = n := by
  have h' := (obB_iff n).1 h
  have := obO_is n
  rw [h] at this
  rw [obV_y _ this]; unfold obO; rw [if_pos h]; omega
theorem smO_smV (o : Int) (h : 0 ≤ o) (h2 : o ≤ 18446744073709551615) (k : isK 1 o = true) : smB (smV o) = true ∧ smO (smV o) = o := by
  rw [isK_iff, tag1] at k
  have e : smB (smV o) = true := by rw [smB_iff]; unfold smV; rw [if_pos k]; split <;> omega
  refine ⟨e, ?_⟩
  unfold smO; rw [if_pos e]; unfold oopS smV; rw [if_pos k]; split <;> omega
theorem chO_chV (o : Int) (h : 0 ≤ o) (k : isK 2 o = true) : chB (chV o) = true ∧ chO (chV o) = o := by
  have e0 := chV_y o k
  rw [isK_iff, tag2] at k
  have e : chB (chV o) = true := by rw [chB_iff, e0]; omega
  refine ⟨e, ?_⟩
  unfold chO; rw [if_pos e, e0]; omega
theorem obO_obV (o : Int) (h : 0 ≤ o) (k : isK 3 o = true) : obB (obV o) = true ∧ obO (obV o) = o := by
  have e0 := obV_y o k
  rw [isK_iff, tag3] at k
  have e : obB (obV o) = true := by rw [obB_iff, e0]; omega
  refine ⟨e, ?_⟩
  unfold obO; rw [if_pos e, e0]; omega
/-- Of a word: its kind, and what each question answers. -/
theorem kinds (o : Int) : (tagN o = 1 ∧ isK 1 o = true ∧ isK 2 o = false ∧ isK 3 o = false ∧ (o == 0) = false) ∨ (tagN o = 2 ∧ isK 1 o = false ∧ isK 2 o = true ∧ isK 3 o = false ∧ (o == 0) = false) ∨
    (tagN o = 3 ∧ isK 1 o = false ∧ isK 2 o = false ∧ isK 3 o = true ∧ (o == 0) = false) ∨ (tagN o = 0 ∧ isK 1 o = false ∧ isK 2 o = false ∧ isK 3 o = false ∧ (o == 0) = true) ∨
    (tagN o = 4 ∧ isK 1 o = false ∧ isK 2 o = false ∧ isK 3 o = false ∧ (o == 0) = false) := by
  have h0 := tag0 o
  have h1 := tag_le o
  have hz : (o == 0) = decide (tagN o = 0) := by rw [Bool.eq_iff_iff]; simp [h0]
  rw [hz]; unfold isK
  rcases (by omega : tagN o = 0 ∨ tagN o = 1 ∨ tagN o = 2 ∨ tagN o = 3 ∨ tagN o = 4) with e | e | e | e | e <;> rw [e] <;> simp
theorem kinds2 (o : Int) (h : 0 ≤ o) (h2 : o ≤ 18446744073709551615) : (tagN o = 1 ∧ isK 1 o = true ∧ isK 2 o = false ∧ isK 3 o = false ∧ (o == 0) = false ∧ smB (smV o) = true ∧ smO (smV o) = o) ∨
    (tagN o = 2 ∧ isK 1 o = false ∧ isK 2 o = true ∧ isK 3 o = false ∧ (o == 0) = false ∧ chB (chV o) = true ∧ chO (chV o) = o) ∨
    (tagN o = 3 ∧ isK 1 o = false ∧ isK 2 o = false ∧ isK 3 o = true ∧ (o == 0) = false ∧ obB (obV o) = true ∧ obO (obV o) = o) ∨ (tagN o = 0 ∧ isK 1 o = false ∧ isK 2 o = false ∧ isK 3 o = false ∧ (o == 0) = true ∧ True ∧ True) ∨
    (tagN o = 4 ∧ isK 1 o = false ∧ isK 2 o = false ∧ isK 3 o = false ∧ (o == 0) = false ∧ True ∧ True) := by
  rcases kinds o with ⟨t, k1, k2, k3, k0⟩ | ⟨t, k1, k2, k3, k0⟩ | ⟨t, k1, k2, k3, k0⟩ | ⟨t, k1, k2, k3, k0⟩ | ⟨t, k1, k2, k3, k0⟩
  · exact .inl ⟨t, k1, k2, k3, k0, smO_smV o h h2 k1⟩
  · exact .inr (.inl ⟨t, k1, k2, k3, k0, chO_chV o h k2⟩)
  · exact .inr (.inr (.inl ⟨t, k1, k2, k3, k0, obO_obV o h k3⟩))
  · exact .inr (.inr (.inr (.inl ⟨t, k1, k2, k3, k0, trivial, trivial⟩)))
  · exact .inr (.inr (.inr (.inr ⟨t, k1, k2, k3, k0, trivial, trivial⟩)))
theorem unB_iff (x y : Int) : unB x y = true ↔ (x ≤ 70368744177663 ∧ y ≤ 65536 ∧ hdB (uC x) (uF x) (uS x) (uH x) (uA x) y = true) := by
  unfold unB; simp [and_assoc]
end Go.Proofs.Ytklbgccfcfldaaa.M
