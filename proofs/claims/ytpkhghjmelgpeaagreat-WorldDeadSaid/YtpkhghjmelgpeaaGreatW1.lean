/- What isNameByte, isName and the document's Name answer: the same. -/
import Derived.Test.YtpkhghjmelgpeaaGreatM
import Derived.Test.YtpkhghjmelgpeaaGreatRows
import Derived.WalkKit
import Derived.ProofKit
import Derived.OpenShut
import Derived.WalkLawsBesides
import Derived.WalkSpells
import Derived.LoopTactic
import Derived.Lib.Hide
import Derived.KernelRfl
set_option linter.unusedVariables false
namespace Go.Proofs.YtpkhghjmelgpeaaGreat.Wk
open Go.ChangeShapes Go.WideShapes Go.ChangeAt Go.RowKit M

theorem ret_b {a b : Bool} (h : a = b) : Ending.returned (.bool a) = .returned (.bool b) := by rw [h]
theorem ret_v {a b : Value} (h : a = b) : Ending.returned a = .returned b := by rw [h]
theorem nb_iff (c : UInt8) : nameByte c = true ↔ (97 ≤ (c.toNat : Int) ∧ (c.toNat : Int) ≤ 122 ∨ 65 ≤ (c.toNat : Int) ∧ (c.toNat : Int) ≤ 90 ∨ 48 ≤ (c.toNat : Int) ∧ (c.toNat : Int) ≤ 57 ∨ (c.toNat : Int) = 46 ∨ (c.toNat : Int) = 45 ∨ (c.toNat : Int) = 95 ∨ (c.toNat : Int) = 47) := by
  unfold nameByte; simp only [decide_eq_true_eq]; omega
theorem nb_t {c : UInt8} (h : 97 ≤ (c.toNat : Int) ∧ (c.toNat : Int) ≤ 122 ∨ 65 ≤ (c.toNat : Int) ∧ (c.toNat : Int) ≤ 90 ∨ 48 ≤ (c.toNat : Int) ∧ (c.toNat : Int) ≤ 57 ∨ (c.toNat : Int) = 46 ∨ (c.toNat : Int) = 45 ∨ (c.toNat : Int) = 95 ∨ (c.toNat : Int) = 47) : true = nameByte c := ((nb_iff c).2 h).symm
theorem nb_f {c : UInt8} (h : ¬ (97 ≤ (c.toNat : Int) ∧ (c.toNat : Int) ≤ 122 ∨ 65 ≤ (c.toNat : Int) ∧ (c.toNat : Int) ≤ 90 ∨ 48 ≤ (c.toNat : Int) ∧ (c.toNat : Int) ≤ 57 ∨ (c.toNat : Int) = 46 ∨ (c.toNat : Int) = 45 ∨ (c.toNat : Int) = 95 ∨ (c.toNat : Int) = 47)) : false = nameByte c := by
  cases hb : nameByte c
  · rfl
  · exact absurd ((nb_iff c).1 hb) h

def nameI (a : Int) : Prop := 97 ≤ a ∧ a ≤ 122 ∨ 65 ≤ a ∧ a ≤ 90 ∨ 48 ≤ a ∧ a ≤ 57 ∨ a = 46 ∨ a = 45 ∨ a = 95 ∨ a = 47
def SayI (a : Int) (b : Bool) : Prop := b = true ↔ nameI a
def SayE (a : Int) (w : World) (e : Ending) (w' : World) : Prop := (∃ b, e = .returned (.bool b) ∧ SayI a b) ∧ w = w'
set_option maxHeartbeats 1000000 in
theorem isNameByte_int (a : Int) (w : World) (h0 : 0 ≤ a) (h1 : a ≤ 255) : Calls Tryz.prog 99 #[.int .u8 a] w (SayE a w) := by
  go_enter Tryz.func99, Tryz.ntmps99
  go_wp2
  all_goals first
    | (go_ret; refine ⟨⟨true, rfl, ?_⟩, rfl⟩; unfold SayI nameI; simp only [true_iff]; omega)
    | (go_ret; refine ⟨⟨true, rfl, ?_⟩, rfl⟩; unfold SayI nameI; simp only [true_iff]; simp only [beq_iff_eq] at *; omega)
    | (go_ret; refine ⟨⟨false, rfl, ?_⟩, rfl⟩; unfold SayI nameI; simp only [Bool.false_eq_true, false_iff]; omega)
    | (go_ret; refine ⟨⟨false, rfl, ?_⟩, rfl⟩; unfold SayI nameI; simp only [Bool.false_eq_true, false_iff]; simp only [beq_eq_false_iff_ne, ne_eq] at *; omega)
theorem isNameByte_any (c : UInt8) (w : World) : Calls Tryz.prog 99 #[.int .u8 c.toNat] w fun e w' => e = .returned (.bool (nameByte c)) ∧ w = w' := by
  refine (isNameByte_int c.toNat w (by omega) (by have := c.toNat_lt; omega)).mono ?_
  rintro e w' ⟨⟨b, rfl, hb⟩, rfl⟩
  refine ⟨ret_b ?_, rfl⟩
  rw [Bool.eq_iff_iff]; exact hb.trans (nb_iff c).symm

theorem name_short {s : ByteArray} (h : s.size < 1) : isName s = false := by unfold isName; simp; intro h1; omega
theorem name_long {s : ByteArray} (h : 64 < s.size) : isName s = false := by unfold isName; simp; intro h1 h2; omega
def upTo (s : ByteArray) (k : Nat) : Prop := (s.data.toList.take k).all nameByte = true
theorem upTo_0 (s : ByteArray) : upTo s 0 := by simp [upTo]
theorem take_snoc (s : ByteArray) (k : Nat) (h : k < s.size) : s.data.toList.take (k + 1) = s.data.toList.take k ++ [s[k]] := by
  rw [List.take_succ_eq_append_getElem (by simpa using h)]; rfl
theorem upTo_succ {s : ByteArray} {k : Nat} (h : upTo s k) (hk : k < s.size) (hb : nameByte s[k] = true) : upTo s (k + 1) := by
  unfold upTo at *; rw [take_snoc s k hk, List.all_append, h]; simp [hb]
theorem name_bad {s : ByteArray} {k : Nat} (hk : k < s.size) (hb : nameByte s[k] = false) : isName s = false := by
  unfold isName
  have : s.data.toList.all nameByte = false := by
    rw [List.all_eq_false]
    exact ⟨s[k], by show s.data[k] ∈ _; exact Array.mem_toList_iff.2 (Array.getElem_mem _), by simp [hb]⟩
  rw [this, Bool.and_false]
theorem name_good {s : ByteArray} (h1 : 1 ≤ s.size) (h2 : s.size ≤ 64) (h : upTo s s.size) : isName s = true := by
  unfold isName; unfold upTo at h
  rw [List.take_of_length_le (by simp)] at h
  rw [h]; simp; omega

set_option maxHeartbeats 1000000 in
theorem isName_any (s : ByteArray) (w : World) (hs : s.size ≤ maxLen) : Calls Tryz.prog 35 #[.string s] w fun e w' => e = .returned (.bool (isName s)) ∧ w = w' := by
  unfold maxLen at hs
  go_enter Tryz.func35, Tryz.ntmps35
  go_wp2
  all_goals first
    | (go_ret; exact ⟨ret_b (name_short (by omega)).symm, rfl⟩)
    | (go_ret; exact ⟨ret_b (name_long (by omega)).symm, rfl⟩)
    | skip
  · go_loop [14] (fun i => ∃ k : Nat, k ≤ s.size ∧ i = .int .i64 k ∧ upTo s k) (fun i => s.size - (intOf i).toNat)
    case atStart => exact ⟨0, Nat.zero_le _, rfl, upTo_0 s⟩
    case round =>
      obtain ⟨k, hk, rfl, hu⟩ := hrel
      have HU := Lib.hid hu
      clear hu
      by_cases hlt : k < s.size
      · cases hb : nameByte s[k]
        · have HB := Lib.hid hb
          have hc : ∀ w : World, Calls Tryz.prog 99 #[.int .u8 s[k].toNat] w fun e w' => e = .returned (.bool false) ∧ w = w' := fun w => by have := isNameByte_any s[k] w; rw [hb] at this; exact this
          have HC := Lib.hid hc
          clear hc hb
          go_wp2_with (go_at_call 99; refine (HC.out _).mono ?_; rintro e w' ⟨rfl, rfl⟩)
          go_ret
          exact ⟨ret_b (name_bad hlt HB.out).symm, rfl⟩
        · have HB := Lib.hid hb
          have hc : ∀ w : World, Calls Tryz.prog 99 #[.int .u8 s[k].toNat] w fun e w' => e = .returned (.bool true) ∧ w = w' := fun w => by have := isNameByte_any s[k] w; rw [hb] at this; exact this
          have HC := Lib.hid hc
          clear hc hb
          go_wp2_with (go_at_call 99; refine (HC.out _).mono ?_; rintro e w' ⟨rfl, rfl⟩)
          go_round
          case rel => exact ⟨k + 1, by omega, by go_num, upTo_succ HU.out hlt HB.out⟩
          case measure => simp [intOf]; omega
      · obtain rfl : k = s.size := by omega
        go_wp2
        go_ret
        exact ⟨ret_b (name_good (by omega) (by omega) HU.out).symm, rfl⟩

end Go.Proofs.YtpkhghjmelgpeaaGreat.Wk
