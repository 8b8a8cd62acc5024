/- What sumOf and the program's Sum answer: the sum of the strings' bytes, one behind the other. -/
import Derived.Test.YtmfbjmffodnaeaaW1
import Derived.Below
import Derived.Laws.OwnMore
import Derived.Handy
set_option linter.unusedVariables false
namespace Go.Proofs.Ytmfbjmffodnaeaa.Wk
open Go.ChangeShapes Go.WideShapes Go.ChangeAt Go.RowKit M

set_option maxHeartbeats 400000 in
theorem sumOf_any (g : Nat) (xs : List ByteArray) (c : Nat) (w : World) (hc : ∀ j (h : j < xs.length), w.cell? ⟨g, j, none⟩ = some (.string xs[j])) (hn : xs.length ≤ 2) (hs : ∀ j (h : j < xs.length), xs[j].size ≤ maxLen) :
    Calls Try.prog 32 #[.slice (some ⟨g, 0, none⟩) xs.length c] w fun e w' => e = .returned (.int .u32 (sumL (flat xs))) ∧ w = w' := by
  have HC := Lib.hid hc
  have HS := Lib.hid hs
  clear hc hs
  go_enter Try.func32, Try.ntmps32
  go_wp2
  go_loop [3, 9] (fun n i => ∃ k : Nat, k ≤ xs.length ∧ i = .int .i64 k ∧ n = .int .u32 (crcL 4294967295 (flat (xs.take k)))) (fun _ i => xs.length - (intOf i).toNat)
  case atStart => exact ⟨0, Nat.zero_le _, rfl, rfl⟩
  case round =>
    obtain ⟨k, hk, rfl, rfl⟩ := hrel
    by_cases hlt : k < xs.length
    · have hck := HC.out k hlt
      have hsk := HS.out k hlt
      unfold maxLen at hsk
      go_wp2
      go_loop [3, 15] (fun n i => ∃ j : Nat, j ≤ xs[k].size ∧ i = .int .i64 j ∧ n = .int .u32 (crcL 4294967295 (flat (xs.take k) ++ xs[k].data.toList.take j))) (fun _ i => xs[k].size - (intOf i).toNat)
      case atStart => exact ⟨0, Nat.zero_le _, rfl, by simp⟩
      case round =>
        obtain ⟨j, hj, rfl, rfl⟩ := hrel
        have hl := crcL_lt 4294967295 (flat (xs.take k) ++ xs[k].data.toList.take j) (by omega)
        by_cases hjt : j < xs[k].size
        · have hb := xs[k][j].toNat_lt
          have hx := xor_lt _ _ hl (by omega : xs[k][j].toNat < 4294967296)
          have e1 : IntKind.u32.wrap (xs[k][j].toNat : Int) = xs[k][j].toNat := by rw [IntKind.wrap_u32']; omega
          have hxe := xor32 _ _ hl (by omega : xs[k][j].toNat < 4294967296)
          have HF := Lib.hid (crc_flat xs k j hlt hjt 4294967295)
          go_wp2_with (go_at_call 51; refine (step_any _ _ hx).mono ?_; rintro e w' ⟨rfl, rfl⟩)
          go_round
          case rel => exact ⟨j + 1, by omega, by go_num, by rw [← HF.out]; rfl⟩
          case measure => simp [intOf]; omega
        · have HF := Lib.hid (flat_take xs k hlt)
          obtain rfl : j = xs[k].size := by omega
          go_wp2
          go_round
          case rel => exact ⟨k + 1, by omega, by go_num, by rw [HF.out, List.take_of_length_le (l := xs[k].data.toList) (by simp)]⟩
          case measure => simp [intOf]; omega
    · have HE := Lib.hid (sum_end32 (flat xs))
      have HF := Lib.hid (flat_all xs k (by omega))
      go_wp2
      go_ret
      exact ⟨ret_int (by rw [HF.out, HE.out]), rfl⟩

theorem cell_new (w : World) (cs : Array Value) (t : TypeId) (i : Nat) : (w.alloc (.cells cs t)).cell? ⟨w.heap.size, i, none⟩ = cs[i]? :=
  cell_of_row _ _ i cs t (0, 0) (heap_alloc_new w _)
theorem sumOf_1 (g : Nat) (a : ByteArray) (w : World) (hc : w.cell? ⟨g, 0, none⟩ = some (.string a)) (ha : a.size ≤ maxLen) :
    Calls Try.prog 32 #[.slice (some ⟨g, 0, none⟩) 1 1] w fun e w' => e = .returned (.int .u32 (sumL a.data.toList)) ∧ w = w' := by
  have h := sumOf_any g [a] 1 w (by intro j hj; obtain rfl : j = 0 := by simp at hj; omega
                                    exact hc) (by simp) (by intro j hj; obtain rfl : j = 0 := by simp at hj; omega
                                                            exact ha)
  simpa [flat] using h
theorem sumOf_2 (g : Nat) (a b : ByteArray) (w : World) (hc : w.cell? ⟨g, 0, none⟩ = some (.string a)) (hd : w.cell? ⟨g, 1, none⟩ = some (.string b)) (ha : a.size ≤ maxLen) (hb : b.size ≤ maxLen) :
    Calls Try.prog 32 #[.slice (some ⟨g, 0, none⟩) 2 2] w fun e w' => e = .returned (.int .u32 (sumL (a.data.toList ++ b.data.toList))) ∧ w = w' := by
  have h := sumOf_any g [a, b] 2 w
    (by
      intro j hj
      rcases (by simp at hj; omega : j = 0 ∨ j = 1) with rfl | rfl
      · exact hc
      · exact hd) (by simp)
    (by
      intro j hj
      rcases (by simp at hj; omega : j = 0 ∨ j = 1) with rfl | rfl
      · exact ha
      · exact hb)
  simpa [flat] using h
set_option maxHeartbeats 400000 in
theorem sum_any (s : ByteArray) (w : World) (hs : s.size ≤ maxLen) :
    Calls Try.prog 13 #[.string s] w fun e w' => e = .returned (.int .u32 (sumL s.data.toList)) ∧ Below w.heap.size w w' := by
  go_enter Try.func13, Try.ntmps13
  go_wp2_with (go_at_call 32; refine (sumOf_1 _ s _ (cell_new w _ _ 0) hs).mono ?_; rintro e w' ⟨rfl, rfl⟩)
  go_ret
  exact ⟨rfl, (Below.refl _ _).alloc (Nat.le_refl _) _⟩
end Go.Proofs.Ytmfbjmffodnaeaa.Wk
