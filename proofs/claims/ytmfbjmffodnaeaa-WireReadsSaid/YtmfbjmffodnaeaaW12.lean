/- What mark, SameFiles and the book's keeping of files answer. -/
import Derived.Test.YtmfbjmffodnaeaaL3
import Derived.Test.YtmfbjmffodnaeaaL4
import Derived.Test.YtmfbjmffodnaeaaL2
set_option linter.unusedVariables false
namespace Go.Proofs.Ytmfbjmffodnaeaa.Wk
open Go.ChangeShapes Go.WideShapes Go.ChangeAt Go.RowKit M

def mkB (n : Nat) : UInt8 := UInt8.ofNat (97 + n % 26)
theorem mkB_nat (n : Nat) : (97 + (n : Int) % 26) = ((mkB n).toNat : Int) := by unfold mkB; rw [toNat_ofNat _ (by omega)]; omega
/-- The mark of a number that is not below 0. -/
def markN : Nat → Nat → List UInt8
  | 0, n => [mkB n]
  | f + 1, n => if n < 26 then [mkB n] else markN f (n / 26) ++ [mkB n]
theorem markN_len (f n : Nat) : (markN f n).length ≤ f + 1 := by
  induction f generalizing n with
  | zero => simp [markN]
  | succ f ih =>
    unfold markN; split
    · simp
    · have := ih (n / 26); simp; omega
def markS (n : Int) : ByteArray := if n < 0 then ⟨(45 :: markN 12 (-n).toNat).toArray⟩ else ⟨(markN 12 n.toNat).toArray⟩

set_option maxHeartbeats 1000000 in
set_option maxRecDepth 100000 in
theorem mark_pos (f : Nat) : ∀ (n : Nat) (w : World), f ≤ 12 → n < 26 ^ (f + 1) →
    Calls Try.prog 53 #[.int .i64 n] w fun e w' => e = .returned (.string ⟨(markN f n).toArray⟩) ∧ Below w.heap.size w w' := by
  induction f with
  | zero =>
    intro n w _ hn
    have hn26 : n < 26 := by simpa using hn
    have hm := mkB_nat n
    have hcv := fun (g : Nat) (W : World) h => conv_byte g (mkB n) W h
    clear hn
    go_enter Try.func53, Try.ntmps53
    go_wp2_with fail
    go_ret
    exact ⟨rfl, (Below.refl _ _).alloc (Nat.le_refl _) _⟩
  | succ f ih =>
    intro n w hf hn
    have hm := mkB_nat n
    have hcv := fun (g : Nat) (W : World) h => conv_byte g (mkB n) W h
    have hbig : n < 2481152873203736576 := Nat.lt_of_lt_of_le hn (Nat.le_trans (Nat.pow_le_pow_right (by omega) (show f + 1 + 1 ≤ 13 by omega)) (by decide))
    by_cases h26 : n < 26
    · have HE : Hid (∀ _ : Unit, markN (f + 1) n = [mkB n]) := Lib.hid (fun _ => by unfold markN; rw [if_pos h26])
      clear hn
      go_enter Try.func53, Try.ntmps53
      go_wp2_with fail
      all_goals first | (exfalso; omega) | skip
      go_ret
      exact ⟨by rw [HE.out ()]; rfl, (Below.refl _ _).alloc (Nat.le_refl _) _⟩
    · obtain ⟨q, hq⟩ : ∃ q, q = n / 26 := ⟨_, rfl⟩
      have hd : (n : Int) / 26 = (q : Int) := by omega
      have hql : q < 26 ^ (f + 1) := by
        rw [hq]; exact Nat.div_lt_of_lt_mul (by rw [Nat.pow_succ] at hn; omega)
      have HE : Hid (∀ _ : Unit, markN (f + 1) n = markN f q ++ [mkB n]) := Lib.hid (fun _ => by rw [hq]; rw [markN, if_neg h26])
      have hl := markN_len f q
      have IH : Hid (∀ w : World, Calls Try.prog 53 #[.int .i64 q] w fun e w' => e = .returned (.string ⟨(markN f q).toArray⟩) ∧ Below w.heap.size w w') := Lib.hid (fun w => ih q w (by omega) hql)
      clear hn hq hql ih
      generalize markN f q = l at *
      go_enter Try.func53, Try.ntmps53
      go_wp2_with (first | (go_at_call 53; (with_reducible refine (IH.out _).mono ?_); rintro e w1 ⟨rfl, b1⟩))
      all_goals first | (exfalso; omega) | skip
      go_ret
      refine ⟨?_, ((Below.refl _ _).alloc (Nat.le_refl _) _).trans (b1.mono (by simp))⟩
      rw [HE.out (), ← str_app]; rfl

set_option maxHeartbeats 1000000 in
set_option maxRecDepth 100000 in
theorem mark_any (n : Int) (w : World) (h1 : -1152921504606846976 ≤ n) (h2 : n ≤ 1152921504606846976) :
    Calls Try.prog 53 #[.int .i64 n] w fun e w' => e = .returned (.string (markS n)) ∧ Below w.heap.size w w' := by
  by_cases h0 : n < 0
  · have HE : Hid (∀ _ : Unit, markS n = ⟨(45 :: markN 12 (-n).toNat).toArray⟩) := Lib.hid (fun _ => by unfold markS; rw [if_pos h0])
    obtain ⟨q, hq⟩ : ∃ q, q = (-n).toNat := ⟨_, rfl⟩
    have hd : -n = (q : Int) := by omega
    have IH : Hid (∀ w : World, Calls Try.prog 53 #[.int .i64 q] w fun e w' => e = .returned (.string ⟨(markN 12 q).toArray⟩) ∧ Below w.heap.size w w') := Lib.hid (fun w => mark_pos 12 q w (by omega) (Nat.lt_of_lt_of_le (show q < 1152921504606846977 by omega) (by decide)))
    have hl := markN_len 12 q
    rw [← hq] at HE
    clear hq
    generalize markN 12 q = l at *
    go_enter Try.func53, Try.ntmps53
    go_wp2_with (first | (go_at_call 53; (with_reducible refine (IH.out _).mono ?_); rintro e w1 ⟨rfl, b1⟩))
    all_goals first | (exfalso; omega) | skip
    go_ret
    refine ⟨?_, b1⟩
    rw [HE.out (), show (45 :: l) = [45] ++ l from rfl, ← str_app]; rfl
  · obtain ⟨q, rfl⟩ := Int.eq_ofNat_of_zero_le (show 0 ≤ n by omega)
    have e : markS (q : Int) = ⟨(markN 12 q).toArray⟩ := by unfold markS; rw [if_neg h0]; rfl
    rw [e]
    exact mark_pos 12 q w (by omega) (Nat.lt_of_lt_of_le (show q < 1152921504606846977 by omega) (by decide))
end Go.Proofs.Ytmfbjmffodnaeaa.Wk
