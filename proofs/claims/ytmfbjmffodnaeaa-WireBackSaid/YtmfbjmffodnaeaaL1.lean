/- The law WireBack returns true, for every argument. No condition beyond what the theorem states. -/
import Derived.Test.YtmfbjmffodnaeaaP1
import Derived.Test.YtmfbjmffodnaeaaW10
set_option linter.unusedVariables false
namespace Go.Proofs.Ytmfbjmffodnaeaa.Wk
open Go.ChangeShapes Go.WideShapes Go.ChangeAt Go.RowKit M

set_option maxHeartbeats 2000000 in
set_option maxRecDepth 100000 in
theorem WireBack_walk (b : ByteArray) (n : Int) (t c z : ByteArray) (w : World) (w0 : b.size ≤ maxLen) (w1 : (Lit.int .u64 n).wf = true) (w2 : t.size ≤ maxLen) (w3 : c.size ≤ maxLen) (w4 : z.size ≤ maxLen) :
    Calls Try.prog 5 #[.string b, .int .u64 n, .string t, .string c, .string z] w fun e w' => e = .returned (.bool true) ∧ Below w.heap.size w w' := by
  obtain ⟨n1, n2⟩ := bounds_u64 w1
  clear w1
  obtain ⟨m, rfl⟩ := Int.eq_ofNat_of_zero_le n1
  unfold maxLen at w0 w2 w3 w4
  by_cases hbig : b.size ≤ 33554431 ∧ t.size ≤ 33554431 ∧ c.size ≤ 33554431 ∧ z.size ≤ 33554431
  · obtain ⟨g1, g2, g3, g4⟩ := hbig
    clear w0 w2 w3 w4
    have hX : (⟨(b.data.toList ++ low 8 m).toArray⟩ : ByteArray).size = b.size + 8 := by rw [← toL_len, toL_mk, List.length_append, low_len, toL_len]
    have cP : Hid (∀ w : World, Calls Try.prog 10 #[.string b, .slice (some ⟨w.heap.size, 0, none⟩) 1 1] (w.alloc (.cells #[.int .u64 m] 34)) fun e w' => e = .returned (.string ⟨(b.data.toList ++ low 8 m).toArray⟩) ∧ Below w.heap.size w w') :=
      Lib.hid (fun w => put_1 b m w 34 (by omega) g1)
    have cT : Hid (∀ w : World, Calls Try.prog 17 #[.string ((⟨(b.data.toList ++ low 8 m).toArray⟩ : ByteArray) ++ z), .int .i64 b.size] w fun e w' => e = .returned (.tuple #[.int .u64 m, .int .i64 ((b.size : Int) + 8), .int .i64 0]) ∧ w = w') :=
      Lib.hid (fun w => by rw [← back_take b z m (by omega)]; exact take_any _ _ w (by rw [ByteArray.size_append, hX]; omega) (by omega) (by omega))
    have cC : Hid (∀ w : World, Calls Try.prog 15 #[.string t, .string c] w fun e w' => e = .returned (.tuple #[.string (chunkS t c), .int .i64 (chunkE t c)]) ∧ Below w.heap.size w w') :=
      Lib.hid (fun w => chunk_any t c w (by unfold maxLen; omega))
    generalize (⟨(b.data.toList ++ low 8 m).toArray⟩ : ByteArray) = X at *
    by_cases hE : chunkE t c = 0
    · have hcs := chunkS_size t c hE
      have cN : Hid (∀ w : World, Calls Try.prog 19 #[.string (b ++ chunkS t c ++ z), .int .i64 b.size] w fun e w' => e = .returned (.tuple #[.string t, .string c, .int .i64 ((b.size : Int) + (chunkS t c).size), .int .i64 0]) ∧ Below w.heap.size w w') :=
        Lib.hid (fun w => by rw [← back_next b t c z hE]; exact next_any _ _ w (by simp only [ByteArray.size_append]; omega) (by omega) (by omega))
      rw [hE] at cC
      clear hE
      generalize chunkS t c = C at *
      go_enter Try.func5, Try.ntmps5
      go_wp2_with (first
        | (go_at_call 8; refine (works_any _).mono ?_; rintro e w1 ⟨rfl, b1⟩)
        | (go_at_call 10; refine (cP.out _).mono ?_; rintro e w2 ⟨rfl, b2⟩)
        | (go_at_call 17; refine (cT.out _).mono ?_; rintro e w' ⟨rfl, rfl⟩)
        | (go_at_call 15; refine (cC.out _).mono ?_; rintro e w3 ⟨rfl, b3⟩)
        | (go_at_call 19; refine (cN.out _).mono ?_; rintro e w4 ⟨rfl, b4⟩))
      go_ret
      refine ⟨rfl, ?_⟩
      have z1 := b1.size; have z2 := b2.size; have z3 := b3.size
      exact b1.trans ((b2.mono (by omega)).trans ((b3.mono (by omega)).trans (b4.mono (by omega))))
    · have hcs := chunkS_bad t c hE
      rw [hcs] at cC
      clear hcs
      generalize chunkE t c = E at *
      go_enter Try.func5, Try.ntmps5
      go_wp2_with (first
        | (go_at_call 8; refine (works_any _).mono ?_; rintro e w1 ⟨rfl, b1⟩)
        | (go_at_call 10; refine (cP.out _).mono ?_; rintro e w2 ⟨rfl, b2⟩)
        | (go_at_call 17; refine (cT.out _).mono ?_; rintro e w' ⟨rfl, rfl⟩)
        | (go_at_call 15; refine (cC.out _).mono ?_; rintro e w3 ⟨rfl, b3⟩))
      go_ret
      refine ⟨rfl, ?_⟩
      have z1 := b1.size; have z2 := b2.size
      exact b1.trans ((b2.mono (by omega)).trans (b3.mono (by omega)))
  · go_enter Try.func5, Try.ntmps5
    go_wp2_with (go_at_call 8; refine (works_any _).mono ?_; rintro e w1 ⟨rfl, b1⟩)
    all_goals first
      | (exfalso; omega)
      | (go_ret; exact ⟨rfl, b1⟩)
end Go.Proofs.Ytmfbjmffodnaeaa.Wk
