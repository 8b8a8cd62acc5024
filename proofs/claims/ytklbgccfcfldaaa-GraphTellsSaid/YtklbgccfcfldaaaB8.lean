/- Bytes, Byte, Slot: what the heap answers of an object's pieces. -/
import Derived.Test.YtklbgccfcfldaaaB7
set_option linter.unusedVariables false
namespace Go.Proofs.Ytklbgccfcfldaaa.Wk
open Go.ChangeShapes Go.WideShapes Go.ChangeAt Go.RowKit M

/-- The slots that have bytes. -/
def bsl (s : Hp) (g : Gh) (a : Nat) : Value := if hasB s a then .slice (byteA g a (sl s a) (nOops s a)) (sl s a - nOops s a) (sl s a - nOops s a) else .slice none 0 0
theorem bytes_any (own : Own) (w : World) (p : Nat) (s : Hp) (g : Gh) (h : Rep own w p s g) (hw : Wf s) (a : Nat) (ha : s.st a = true) :
    Calls Try.prog 65 #[objV g (s.mem a) a (sl s a)] w fun e w' => e = .returned (.tuple #[bsl s g a, .int .i64 (nBytes s a)]) ∧ Below w.heap.size w w' := by
  unfold bsl
  cases hB : hasB s a
  · exact bytes_n own w p s g h hw a ha hB
  · exact bytes_y own w p s g h hw a ha hB
/-- find, and its result in a box. -/
theorem found {own : Own} {w W : World} {p : Nat} {s : Hp} {g : Gh} (h : Rep own w p s g) {w1 : World} (b : Below w.heap.size w w1) (o : Obj) : Rep own (w1.alloc o) p s g := (h.below b (Nat.le_refl _)).below ((Below.refl _ _).alloc (Nat.le_refl _) _) (Nat.le_refl _)

set_option maxHeartbeats 2000000 in
set_option maxRecDepth 100000 in
theorem bytesN_y (own : Own) (w : World) (p : Nat) (s : Hp) (g : Gh) (h : Rep own w p s g) (hw : Wf s) (o : Int) (h0 : 0 ≤ o) (h2 : o ≤ 18446744073709551615) (ho : isOb s o = true) :
    Calls Try.prog 81 #[.pointer (some ⟨p, 0, none⟩), .int .u64 o] w fun e w' => e = .returned (.tuple #[.int .i64 (nBytes s (atO o)), .int .i64 0]) ∧ Below w.heap.size w w' := by
  have HF := find_y own w p s g h hw o h0 h2 ho
  have hst := (isOb_at hw ho).2
  have HO := Lib.hid (fun w1 (b : Below w.heap.size w w1) => bytes_any own (w1.alloc (.cells #[.int .i64 (atO o), .int .i64 (uC (s.mem (atO o))), .int .u8 (uF (s.mem (atO o))), .int .i64 (uS (s.mem (atO o))), .int .i64 (uH (s.mem (atO o))), .int .i64 (uA (s.mem (atO o))), .int .i64 (sl s (atO o)), .bool (uM (s.mem (atO o))), .bool (uN (s.mem (atO o))), .slice (slA g (atO o) (sl s (atO o))) (sl s (atO o)) (sl s (atO o))] 83)) p s g (found (W := w) h b _) hw (atO o) hst)
  simp only [objV] at HF HO
  obtain ⟨sa, hsa⟩ : ∃ sa, sa = slA g (atO o) (sl s (atO o)) := ⟨_, rfl⟩
  rw [← hsa] at HF HO
  clear h hw ho hsa hst
  generalize nBytes s (atO o) = n at *
  generalize bsl s g (atO o) = bv at *
  generalize s.mem (atO o) = x at *
  generalize sl s (atO o) = k at *
  generalize atO o = a at *
  go_enter Try.func81, Try.ntmps81
  go_wp2_with (first
    | (go_at_call 24; refine HF.mono ?_; rintro e w1 ⟨rfl, b1⟩; have B1 := Lib.hid b1; clear b1)
    | (go_at_call 65; refine (HO.out _ B1.out).mono ?_; rintro e w2 ⟨rfl, b2⟩; have B2 := Lib.hid b2; clear b2))
  go_ret2
  exact ⟨rfl, (B1.out.alloc B1.out.size _).trans (B2.out.mono (by simp; exact Nat.le_succ_of_le B1.out.size))⟩

set_option maxHeartbeats 2000000 in
set_option maxRecDepth 100000 in
theorem slot_y (own : Own) (w : World) (p : Nat) (s : Hp) (g : Gh) (h : Rep own w p s g) (hw : Wf s) (o : Int) (h0 : 0 ≤ o) (h2 : o ≤ 18446744073709551615) (ho : isOb s o = true) (i : Nat) (hi : i < nOops s (atO o)) :
    Calls Try.prog 15 #[.pointer (some ⟨p, 0, none⟩), .int .u64 o, .int .i64 i] w fun e w' => e = .returned (.tuple #[.int .u64 (s.mem (atO o + 2 + i)), .int .i64 0]) ∧ Below w.heap.size w w' := by
  have HF := find_y own w p s g h hw o h0 h2 ho
  have hst := (isOb_at hw ho).2
  have HO := Lib.hid (fun w1 (b : Below w.heap.size w w1) => oops_any own (w1.alloc (.cells #[.int .i64 (atO o), .int .i64 (uC (s.mem (atO o))), .int .u8 (uF (s.mem (atO o))), .int .i64 (uS (s.mem (atO o))), .int .i64 (uH (s.mem (atO o))), .int .i64 (uA (s.mem (atO o))), .int .i64 (sl s (atO o)), .bool (uM (s.mem (atO o))), .bool (uN (s.mem (atO o))), .slice (slA g (atO o) (sl s (atO o))) (sl s (atO o)) (sl s (atO o))] 83)) p s g (found (W := w) h b _) hw (atO o) hst)
  have hle := nOops_le hw hst
  have hbd := hw.st _ hst
  have HC := Lib.hid (fun w1 (b : Below w.heap.size w w1) w2 (b2 : Below (w1.alloc (.cells #[.int .i64 (atO o), .int .i64 (uC (s.mem (atO o))), .int .u8 (uF (s.mem (atO o))), .int .i64 (uS (s.mem (atO o))), .int .i64 (uH (s.mem (atO o))), .int .i64 (uA (s.mem (atO o))), .int .i64 (sl s (atO o)), .bool (uM (s.mem (atO o))), .bool (uN (s.mem (atO o))), .slice (slA g (atO o) (sl s (atO o))) (sl s (atO o)) (sl s (atO o))] 83)).heap.size (w1.alloc (.cells #[.int .i64 (atO o), .int .i64 (uC (s.mem (atO o))), .int .u8 (uF (s.mem (atO o))), .int .i64 (uS (s.mem (atO o))), .int .i64 (uH (s.mem (atO o))), .int .i64 (uA (s.mem (atO o))), .int .i64 (sl s (atO o)), .bool (uM (s.mem (atO o))), .bool (uN (s.mem (atO o))), .slice (slA g (atO o) (sl s (atO o))) (sl s (atO o)) (sl s (atO o))] 83)) w2) => ((found (W := w) h b (.cells #[.int .i64 (atO o), .int .i64 (uC (s.mem (atO o))), .int .u8 (uF (s.mem (atO o))), .int .i64 (uS (s.mem (atO o))), .int .i64 (uH (s.mem (atO o))), .int .i64 (uA (s.mem (atO o))), .int .i64 (sl s (atO o)), .bool (uM (s.mem (atO o))), .bool (uN (s.mem (atO o))), .slice (slA g (atO o) (sl s (atO o))) (sl s (atO o)) (sl s (atO o))] 83)).below b2 (Nat.le_refl _)).word (atO o + 2 + i) (by omega))
  have hsa0 : slA g (atO o) (sl s (atO o)) = some ⟨g.wb, atO o + 2, none⟩ := by unfold slA; rw [if_neg (by omega)]
  simp only [objV] at HF HO
  obtain ⟨sa, hsa⟩ : ∃ sa, sa = slA g (atO o) (sl s (atO o)) := ⟨_, rfl⟩
  rw [← hsa] at HF HO
  rw [← hsa] at HC
  rw [hsa0] at hsa
  subst hsa
  clear h hw ho hst hle hbd hsa0
  generalize nOops s (atO o) = n at *
  generalize s.mem (atO o + 2 + i) = y at *
  generalize s.mem (atO o) = x at *
  generalize sl s (atO o) = k at *
  generalize atO o = a at *
  have i1 : (i : Int) < n := by omega
  have i2 : (decide ((0 : Int) ≤ (i : Int)) && decide ((i : Int) < (n : Int))) = true := by simp; omega
  go_enter Try.func15, Try.ntmps15
  go_wp2_with (first
    | (go_at_call 24; refine HF.mono ?_; rintro e w1 ⟨rfl, b1⟩; have B1 := Lib.hid b1; clear b1)
    | (go_at_call 25; refine (HO.out _ B1.out).mono ?_; rintro e w2 ⟨rfl, b2⟩; have B2 := Lib.hid b2; have hc := HC.out _ B1.out _ b2; clear b2)
    | (go_at_call 26; refine (isIndex_any _ _ _).mono ?_; rintro e w3 ⟨rfl, rfl⟩))
  go_ret2
  exact ⟨rfl, (B1.out.alloc B1.out.size _).trans (B2.out.mono (by simp; exact Nat.le_succ_of_le B1.out.size))⟩
end Go.Proofs.Ytklbgccfcfldaaa.Wk
