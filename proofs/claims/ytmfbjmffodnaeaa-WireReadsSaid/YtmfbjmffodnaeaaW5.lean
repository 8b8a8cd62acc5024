/- What Take, open and Next (the program's and the document's) answer: words and chunks read back. -/
import Derived.Test.YtmfbjmffodnaeaaW4
import Derived.Deep.QuietTactic
import Derived.BigQuiet
import Derived.Handy
import Derived.Deep.DeepCutAuto
set_option linter.unusedVariables false
namespace Go.Proofs.Ytmfbjmffodnaeaa.Wk
open Go.ChangeShapes Go.WideShapes Go.ChangeAt Go.RowKit M

theorem size_ext (b : ByteArray) (i j : Nat) (h : i ≤ j) (h2 : j ≤ b.size) : (b.extract i j).size = j - i := by
  rw [ByteArray.size_extract]; omega
/-- The number that a text's bytes are; the sum of two texts. -/
def highB (s : ByteArray) : Nat := high s.data.toList
def sum2 (a b : ByteArray) : Nat := sumL (a.data.toList ++ b.data.toList)
theorem read_B (s : ByteArray) (w : World) (hs : s.size ≤ 8) : Calls Try.prog 36 #[.string s] w fun e w' => e = .returned (.int .u64 (highB s)) ∧ w = w' := read_any s w hs
theorem high_B (s : ByteArray) (w : World) (hs : s.size ≤ 8) : Calls Try.prog 37 #[.string s] w fun e w' => e = .returned (.int .u64 (highB s)) ∧ w = w' := high_any s w hs
theorem highB_lt (s : ByteArray) (h : s.size ≤ 4) : highB s < 4294967296 := by
  have h1 := high_lt s.data.toList
  have e : s.data.toList.length = s.size := by simp
  rw [e] at h1
  exact Nat.lt_of_lt_of_le h1 (Nat.pow_le_pow_right (n := 256) (by omega) h)
theorem sum2_lt (a b : ByteArray) : sum2 a b < 4294967296 := sumL_lt _
theorem sumOf_B (a b : ByteArray) (w : World) (ha : a.size ≤ maxLen) (hb : b.size ≤ maxLen) :
    Calls Try.prog 32 #[.slice (some ⟨w.heap.size, 0, none⟩) 2 2] (w.alloc (.cells #[.string a, .string b] 9)) fun e w' => e = .returned (.int .u32 (sum2 a b)) ∧ w.alloc (.cells #[.string a, .string b] 9) = w' := sumOf_new a b w ha hb
theorem rsum_B (a b : ByteArray) (w : World) (hs : a.size + b.size ≤ maxLen) :
    Calls Try.prog 14 #[.string (a ++ b)] w fun e w' => e = .returned (.int .u32 (sum2 a b)) ∧ w = w' := by
  have := rsum_any (a ++ b) w (by rw [ByteArray.size_append]; exact hs)
  unfold sum2
  rwa [show (a ++ b).data.toList = a.data.toList ++ b.data.toList by simp] at this
theorem wrap_sum2 (a b : ByteArray) : IntKind.u64.wrap ((sum2 a b : Nat) : Int) = ((sum2 a b : Nat) : Int) := wrap_sum _
def takeN (b : ByteArray) (a : Int) : Int := if lackE b.size a 8 = 0 then highB (b.extract a.toNat (a.toNat + 8)) else 0
def takeK (b : ByteArray) (a : Int) : Int := if lackE b.size a 8 = 0 then a + 8 else a
def takeV (b : ByteArray) (a : Int) : Value := .tuple #[.int .u64 (takeN b a), .int .i64 (takeK b a), .int .i64 (lackE b.size a 8)]
theorem lackE_ok (n a m : Int) (h1 : 0 ≤ a) (h2 : m ≤ n - a) (h3 : 0 ≤ m) : lackE n a m = 0 := by unfold lackE; rw [if_neg (by omega), if_neg (by omega)]

theorem below_dn (B : Nat) (w : World) (n : Nat) : Below B w (w.drewN n) := ⟨rfl, rfl, rfl, Nat.le_refl _, fun _ _ => rfl⟩
theorem ret_v {a b : Value} (h : a = b) : Ending.returned a = .returned b := by rw [h]

set_option maxHeartbeats 1000000 in
set_option maxRecDepth 100000 in
theorem take_any (b : ByteArray) (a : Int) (w : World) (hb : b.size ≤ 1073741824) (ha : -9223372036854775808 ≤ a) (ha2 : a ≤ 9223372036854775807) :
    Calls Try.prog 17 #[.string b, .int .i64 a] w fun e w' => e = .returned (takeV b a) ∧ w = w' := by
  by_cases hl : lackE b.size a 8 = 0
  · have h0 : 0 ≤ a ∧ a + 8 ≤ b.size := by unfold lackE at hl; split at hl <;> (try split at hl) <;> omega
    obtain ⟨n, rfl⟩ := Int.eq_ofNat_of_zero_le h0.1
    have hse := size_ext b n (n + 8) (by omega) (by omega)
    have HL := Lib.hid hl
    go_enter Try.func17, Try.ntmps17
    go_wp2_with (first
      | (go_at_call 35; refine (lacks_any b _ 8 _ (by unfold maxLen; omega) (by omega) (by omega) (by omega) (by omega)).mono ?_; rintro e w' ⟨rfl, rfl⟩)
      | (go_at_call 36; refine (read_B _ _ (by omega)).mono ?_; rintro e w' ⟨rfl, rfl⟩))
    go_ret3
    refine ⟨ret_v ?_, rfl⟩
    unfold takeV takeN takeK
    rw [HL.out]; rfl
  · have HL := Lib.hid hl
    go_enter Try.func17, Try.ntmps17
    go_wp2_with (first
      | (go_at_call 35; refine (lacks_any b _ 8 _ (by unfold maxLen; omega) (by omega) (by omega) (by omega) (by omega)).mono ?_; rintro e w' ⟨rfl, rfl⟩))
    go_ret3
    refine ⟨ret_v ?_, rfl⟩
    unfold takeV takeN takeK
    rw [if_neg HL.out, if_neg HL.out]; rfl

set_option maxHeartbeats 1000000 in
set_option maxRecDepth 100000 in
theorem rtake_any (b : ByteArray) (a : Int) (w : World) (hb : b.size ≤ 1073741824) (ha : -9223372036854775808 ≤ a) (ha2 : a ≤ 9223372036854775807) :
    Calls Try.prog 18 #[.string b, .int .i64 a] w fun e w' => e = .returned (takeV b a) ∧ w = w' := by
  by_cases h0 : a < 0
  · go_enter Try.func18, Try.ntmps18
    go_wp2
    go_ret3
    refine ⟨ret_v ?_, rfl⟩
    have hl : lackE b.size a 8 = 1 := by unfold lackE; rw [if_pos (by omega)]
    unfold takeV takeN takeK
    rw [hl]; rfl
  · by_cases h1 : (b.size : Int) < a
    · go_enter Try.func18, Try.ntmps18
      go_wp2
      all_goals first | (exfalso; omega) | skip
      go_ret3
      refine ⟨ret_v ?_, rfl⟩
      have hl : lackE b.size a 8 = 1 := by unfold lackE; rw [if_pos (by omega)]
      unfold takeV takeN takeK
      rw [hl]; rfl
    · obtain ⟨n, rfl⟩ := Int.eq_ofNat_of_zero_le (show 0 ≤ a by omega)
      by_cases h8 : (b.size : Int) - n < 8
      · go_enter Try.func18, Try.ntmps18
        go_wp2
        all_goals first | (exfalso; omega) | skip
        go_ret3
        refine ⟨ret_v ?_, rfl⟩
        have hl : lackE b.size n 8 = 20 := by unfold lackE; rw [if_neg (by omega), if_pos (by omega)]
        unfold takeV takeN takeK
        rw [hl]; rfl
      · have hse := size_ext b n (n + 8) (by omega) (by omega)
        go_enter Try.func18, Try.ntmps18
        go_wp2_with (go_at_call 37; refine (high_B _ _ (by omega)).mono ?_; rintro e w' ⟨rfl, rfl⟩)
        all_goals first | (exfalso; omega) | skip
        go_ret3
        refine ⟨ret_v ?_, rfl⟩
        have hl : lackE b.size n 8 = 0 := by unfold lackE; rw [if_neg (by omega), if_neg (by omega)]
        unfold takeV takeN takeK
        rw [hl]; rfl

def cR (r : ByteArray) : ByteArray := r.extract 8 r.size
def cL (r : ByteArray) : Nat := highB (r.extract 4 8)
def cC (r : ByteArray) : ByteArray := (cR r).extract 0 (cL r)
def cS (r : ByteArray) : Nat := highB ((cR r).extract (cL r) (cL r + 4))
/-- What is wrong with the chunk with which bytes begin. -/
def chE (r : ByteArray) : Int := if tagB (r.extract 0 4) then (if cL r ≤ 16777216 then (if cL r + 12 ≤ r.size then (if cS r = sum2 (r.extract 0 4) (cC r) then 0 else 22) else 20) else 21) else 1
def chT (r : ByteArray) : ByteArray := if chE r = 0 then r.extract 0 4 else ⟨#[]⟩
def chC (r : ByteArray) : ByteArray := if chE r = 0 then cC r else ⟨#[]⟩
def chV (r : ByteArray) : Value := .tuple #[.string (chT r), .string (chC r), .int .i64 (chE r)]
theorem chV_bad (r : ByteArray) (e : Int) (h : chE r = e) (h0 : e ≠ 0) : chV r = .tuple #[.string ⟨#[]⟩, .string ⟨#[]⟩, .int .i64 e] := by
  unfold chV chT chC; rw [h, if_neg h0, if_neg h0]
theorem chV_ok (r : ByteArray) (h : chE r = 0) : chV r = .tuple #[.string (r.extract 0 4), .string (cC r), .int .i64 0] := by
  unfold chV chT chC; rw [h]; rfl
/-- The five ways of a chunk. -/
theorem chE_1 (r : ByteArray) (h : tagB (r.extract 0 4) = false) : chE r = 1 := by unfold chE; rw [h]; rfl
theorem chE_21 (r : ByteArray) (h : tagB (r.extract 0 4) = true) (h2 : ¬ cL r ≤ 16777216) : chE r = 21 := by unfold chE; rw [h, if_pos rfl, if_neg h2]
theorem chE_20 (r : ByteArray) (h : tagB (r.extract 0 4) = true) (h2 : cL r ≤ 16777216) (h3 : ¬ cL r + 12 ≤ r.size) : chE r = 20 := by unfold chE; rw [h, if_pos rfl, if_pos h2, if_neg h3]
theorem chE_22 (r : ByteArray) (h : tagB (r.extract 0 4) = true) (h2 : cL r ≤ 16777216) (h3 : cL r + 12 ≤ r.size) (h4 : ¬ cS r = sum2 (r.extract 0 4) (cC r)) : chE r = 22 := by unfold chE; rw [h, if_pos rfl, if_pos h2, if_pos h3, if_neg h4]
theorem chE_0 (r : ByteArray) (h : tagB (r.extract 0 4) = true) (h2 : cL r ≤ 16777216) (h3 : cL r + 12 ≤ r.size) (h4 : cS r = sum2 (r.extract 0 4) (cC r)) : chE r = 0 := by unfold chE; rw [h, if_pos rfl, if_pos h2, if_pos h3, if_pos h4]
theorem wrap_nat (n : Nat) (h : n ≤ 4294967296) : IntKind.i64.wrap (n : Int) = n := by rw [IntKind.wrap_i64]; omega

end Go.Proofs.Ytmfbjmffodnaeaa.Wk
