/- The chapter's examples hold: works returns true. -/
import Derived.Test.YtmfbjmffodnaeaaW9
import Derived.KernelRfl
set_option linter.unusedVariables false
namespace Go.Proofs.Ytmfbjmffodnaeaa.Wk
open Go.ChangeShapes Go.WideShapes Go.ChangeAt Go.RowKit M

def xP : ByteArray := ⟨#[2, 1, 0, 0, 0, 0, 0, 0]⟩
def xC : ByteArray := ⟨#[116, 97, 103, 115, 1, 0, 0, 0, 97, 42, 135, 213, 58]⟩
theorem e_put : strL ((⟨#[]⟩ : ByteArray).data.toList ++ wordsL [258]) = .string ⟨#[2, 1, 0, 0, 0, 0, 0, 0]⟩ := by kernel_rfl
theorem e_take0 : takeV ⟨#[2, 1, 0, 0, 0, 0, 0, 0]⟩ 0 = .tuple #[.int .u64 258, .int .i64 8, .int .i64 0] := by kernel_rfl
theorem e_take1 : takeV ⟨#[2, 1, 0, 0, 0, 0, 0, 0]⟩ 1 = .tuple #[.int .u64 0, .int .i64 1, .int .i64 20] := by kernel_rfl
theorem e_sum : sumL (⟨#[49, 50, 51, 52, 53, 54, 55, 56, 57]⟩ : ByteArray).data.toList = 3421780262 := by kernel_rfl
theorem e_chunk : Value.tuple #[.string (chunkS ⟨#[116, 97, 103, 115]⟩ ⟨#[97]⟩), .int .i64 (chunkE ⟨#[116, 97, 103, 115]⟩ ⟨#[97]⟩)] = .tuple #[.string ⟨#[116, 97, 103, 115, 1, 0, 0, 0, 97, 42, 135, 213, 58]⟩, .int .i64 0] := by kernel_rfl
theorem e_next : nV ⟨#[116, 97, 103, 115, 1, 0, 0, 0, 97, 42, 135, 213, 58]⟩ 0 = .tuple #[.string ⟨#[116, 97, 103, 115]⟩, .string ⟨#[97]⟩, .int .i64 13, .int .i64 0] := by kernel_rfl
theorem e_chunk2 : Value.tuple #[.string (chunkS ⟨#[84, 97, 103, 49]⟩ ⟨#[]⟩), .int .i64 (chunkE ⟨#[84, 97, 103, 49]⟩ ⟨#[]⟩)] = .tuple #[.string ⟨#[]⟩, .int .i64 1] := by kernel_rfl
theorem put_1 (b : ByteArray) (n : Nat) (w : World) (t : TypeId) (hn : n < 18446744073709551616) (hb : b.size ≤ 33554431) :
    Calls Try.prog 10 #[.string b, .slice (some ⟨w.heap.size, 0, none⟩) 1 1] (w.alloc (.cells #[.int .u64 n] t)) fun e w' => e = .returned (strL (b.data.toList ++ low 8 n)) ∧ Below w.heap.size w w' := by
  have h := put_any b (some ⟨w.heap.size, 0, none⟩) 1 [n] (w.alloc (.cells #[.int .u64 n] t)) hb (by simp) (by
    intro _
    refine ⟨_, rfl, by simp, fun j hj => ?_⟩
    obtain rfl : j = 0 := by simp at hj; omega
    exact cell_new w _ _ 0) (by
    intro j hj
    obtain rfl : j = 0 := by simp at hj; omega
    exact hn)
  refine h.mono ?_
  rintro e w' ⟨he, hb⟩
  refine ⟨?_, ((Below.refl _ _).alloc (Nat.le_refl _) _).trans (hb.mono (by simp))⟩
  rw [he]; simp [wordsL]
theorem e_put1 : strL ((⟨#[]⟩ : ByteArray).data.toList ++ low 8 258) = .string ⟨#[2, 1, 0, 0, 0, 0, 0, 0]⟩ := by kernel_rfl
set_option maxHeartbeats 1000000 in
set_option maxRecDepth 100000 in
theorem works_any (w : World) : Calls Try.prog 8 #[] w fun e w' => e = .returned (.bool true) ∧ Below w.heap.size w w' := by
  have c1 : Hid (∀ w : World, Calls Try.prog 10 #[.string ⟨#[]⟩, .slice (some ⟨w.heap.size, 0, none⟩) 1 1] (w.alloc (.cells #[.int .u64 258] 34)) fun e w' => e = .returned (.string ⟨#[2, 1, 0, 0, 0, 0, 0, 0]⟩) ∧ Below w.heap.size w w') :=
    Lib.hid (fun w => by have := put_1 ⟨#[]⟩ 258 w 34 (by omega) (by decide); rw [e_put1] at this; exact this)
  have c2 : Hid (∀ w : World, Calls Try.prog 17 #[.string ⟨#[2, 1, 0, 0, 0, 0, 0, 0]⟩, .int .i64 0] w fun e w' => e = .returned (.tuple #[.int .u64 258, .int .i64 8, .int .i64 0]) ∧ w = w') :=
    Lib.hid (fun w => by have := take_any ⟨#[2, 1, 0, 0, 0, 0, 0, 0]⟩ 0 w (by decide) (by omega) (by omega); rw [e_take0] at this; exact this)
  have c3 : Hid (∀ w : World, Calls Try.prog 17 #[.string ⟨#[2, 1, 0, 0, 0, 0, 0, 0]⟩, .int .i64 1] w fun e w' => e = .returned (.tuple #[.int .u64 0, .int .i64 1, .int .i64 20]) ∧ w = w') :=
    Lib.hid (fun w => by have := take_any ⟨#[2, 1, 0, 0, 0, 0, 0, 0]⟩ 1 w (by decide) (by omega) (by omega); rw [e_take1] at this; exact this)
  have c4 : Hid (∀ w : World, Calls Try.prog 13 #[.string ⟨#[49, 50, 51, 52, 53, 54, 55, 56, 57]⟩] w fun e w' => e = .returned (.int .u32 3421780262) ∧ Below w.heap.size w w') :=
    Lib.hid (fun w => by have := sum_any ⟨#[49, 50, 51, 52, 53, 54, 55, 56, 57]⟩ w (by decide); rw [e_sum] at this; exact this)
  have c5 : Hid (∀ w : World, Calls Try.prog 15 #[.string ⟨#[116, 97, 103, 115]⟩, .string ⟨#[97]⟩] w fun e w' => e = .returned (.tuple #[.string ⟨#[116, 97, 103, 115, 1, 0, 0, 0, 97, 42, 135, 213, 58]⟩, .int .i64 0]) ∧ Below w.heap.size w w') :=
    Lib.hid (fun w => by have := chunk_any ⟨#[116, 97, 103, 115]⟩ ⟨#[97]⟩ w (by decide); rw [e_chunk] at this; exact this)
  have c6 : Hid (∀ w : World, Calls Try.prog 19 #[.string ⟨#[116, 97, 103, 115, 1, 0, 0, 0, 97, 42, 135, 213, 58]⟩, .int .i64 0] w fun e w' => e = .returned (.tuple #[.string ⟨#[116, 97, 103, 115]⟩, .string ⟨#[97]⟩, .int .i64 13, .int .i64 0]) ∧ Below w.heap.size w w') :=
    Lib.hid (fun w => by have := next_any ⟨#[116, 97, 103, 115, 1, 0, 0, 0, 97, 42, 135, 213, 58]⟩ 0 w (by decide) (by omega) (by omega); rw [e_next] at this; exact this)
  have c7 : Hid (∀ w : World, Calls Try.prog 15 #[.string ⟨#[84, 97, 103, 49]⟩, .string ⟨#[]⟩] w fun e w' => e = .returned (.tuple #[.string ⟨#[]⟩, .int .i64 1]) ∧ Below w.heap.size w w') :=
    Lib.hid (fun w => by have := chunk_any ⟨#[84, 97, 103, 49]⟩ ⟨#[]⟩ w (by decide); rw [e_chunk2] at this; exact this)
  go_enter Try.func8, Try.ntmps8
  go_wp2_with fail
  refine (c1.out _).mono ?_
  rintro e w1 ⟨rfl, b1⟩
  go_wp2_with fail
  refine (c2.out _).mono ?_
  rintro e w' ⟨rfl, rfl⟩
  go_wp2_with fail
  refine (c3.out _).mono ?_
  rintro e w' ⟨rfl, rfl⟩
  go_wp2_with fail
  refine (c4.out _).mono ?_
  rintro e w2 ⟨rfl, b2⟩
  go_wp2_with fail
  refine (c5.out _).mono ?_
  rintro e w3 ⟨rfl, b3⟩
  go_wp2_with fail
  refine (c6.out _).mono ?_
  rintro e w4 ⟨rfl, b4⟩
  go_wp2_with fail
  refine (c7.out _).mono ?_
  rintro e w5 ⟨rfl, b5⟩
  go_wp2
  go_ret
  refine ⟨rfl, ?_⟩
  have z1 := b1.size; have z2 := b2.size; have z3 := b3.size; have z4 := b4.size
  exact b1.trans ((b2.mono (by omega)).trans ((b3.mono (by omega)).trans ((b4.mono (by omega)).trans (b5.mono (by omega)))))
end Go.Proofs.Ytmfbjmffodnaeaa.Wk
