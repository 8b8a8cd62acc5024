/- The law WireWrites returns true, for every argument. No condition beyond what the theorem states. -/
import Derived.Test.YtmfbjmffodnaeaaW11
import Derived.ChangeSlices
set_option linter.unusedVariables false
namespace Go.Proofs.Ytmfbjmffodnaeaa.Wk
open Go.ChangeShapes Go.WideShapes Go.ChangeAt Go.RowKit M

theorem cell_in {w : World} {a : Addr} {v : Value} (h : w.cell? a = some v) : a.block < w.heap.size := by
  rcases Nat.lt_or_ge a.block w.heap.size with h1 | h1
  · exact h1
  · unfold World.cell? at h
    rw [Array.getElem?_eq_none h1] at h
    simp at h
theorem cells34 : Try.prog.cellsOf 34 = 1 := by kernel_rfl
set_option maxRecDepth 100000 in
/-- A list of words that came in. -/
theorem open_nums {H : Type} {enc : TypeId × Value → H} {w : World} {base : Nat} {v : Value} {d : DataW H} {p : List MemPlace} (hv : Value.okWide Try.prog w .any base 22 v) (h : DataW.Trod enc Try.prog w 0 (fun _ => true) true 22 v d p) :
    ∃ (A : Option Addr) (c : Nat) (xs : List Nat), v = .slice A xs.length c ∧ (A = none → c = 0) ∧ xs.length ≤ maxLen ∧ Nums w w.heap.size A xs ∧ ∀ j (h : j < xs.length), xs[j] < 18446744073709551616 := by
  obtain ⟨a0, len0, cap0, rfl⟩ := okWide_slice Try.underlying22 hv
  obtain ⟨m, hm⟩ := h
  have hcs : (Value.slice a0 len0 cap0).cells.toList = [.slice a0 len0 cap0] := rfl
  rw [hcs] at hm
  rcases open_ints Try.underlying22 Try.underlying34 cells34 hm with ⟨h1, _⟩ | ⟨a, len, cap, zs, h1, _, hl, hcm, hz, _, hcell, hwz⟩
  · injection h1 with h1 _
    injection h1 with e1 e2 e3
    subst e1 e2 e3
    exact ⟨none, 0, [], rfl, fun _ => rfl, Nat.zero_le _, fun h => absurd h (Nat.lt_irrefl _), fun j h => absurd h (Nat.not_lt_zero _)⟩
  · injection h1 with h1 _
    injection h1 with e1 e2 e3
    subst e1 e2 e3
    simp only [if_true] at hz
    have hlen : ((zs.take len0).map Int.toNat).length = len0 := by simp; omega
    have hb : ∀ j (h : j < zs.length), 0 ≤ zs[j] ∧ zs[j] ≤ 18446744073709551615 := fun j h => bounds_u64 (hwz _ (List.getElem_mem h))
    refine ⟨some a, cap0, (zs.take len0).map Int.toNat, by rw [hlen], (fun h => by cases h), by rw [hlen]; omega, fun h0 => ?_, fun j hj => ?_⟩
    · have hc : ∀ j (h : j < ((zs.take len0).map Int.toNat).length), w.cell? (a.add j) = some (.int .u64 ((zs.take len0).map Int.toNat)[j]) := by
        intro j h
        have hj : j < zs.length := by omega
        have := hcell j hj
        rw [this]
        have h3 := (hb j hj).1
        simp [List.getElem?_eq_getElem hj]
        omega
      refine ⟨a, rfl, ?_, hc⟩
      have := cell_in (hc 0 h0)
      rwa [show a.add 0 = a from rfl] at this
    · have hj2 : j < zs.length := by omega
      have := hb j hj2
      simp
      omega

set_option maxHeartbeats 2000000 in
set_option maxRecDepth 100000 in
theorem WireWrites_walk {H : Type} {enc : TypeId × Value → H} {base : Nat} {d : DataW H} {p : List MemPlace} (b : ByteArray) (v : Value) (t c : ByteArray) (w : World) (w0 : b.size ≤ maxLen) (w1 : Value.okWide Try.prog w .any base 22 v) (h1 : DataW.Trod enc Try.prog w 0 (fun _ => true) true 22 v d p) (w2 : t.size ≤ maxLen) (w3 : c.size ≤ maxLen) :
    Calls Try.prog 3 #[.string b, v, .string t, .string c] w fun e w' => e = .returned (.bool true) ∧ Below w.heap.size w w' := by
  obtain ⟨A, cap, xs, rfl, hA, hxm, hx, hxb⟩ := open_nums w1 h1
  clear w1 h1
  unfold maxLen at w0 w2 w3 hxm
  by_cases hbig : b.size ≤ 33554431 ∧ xs.length ≤ 33554431 ∧ t.size ≤ 33554431 ∧ c.size ≤ 33554431
  · obtain ⟨g1, g2, g3, g4⟩ := hbig
    clear w0 w2 w3 hxm
    have HX := Lib.hid hx
    have HB := Lib.hid hxb
    have HA := Lib.hid hA
    clear hx hxb hA
    go_enter Try.func3, Try.ntmps3
    go_wp2_with (go_at_call 8; refine (works_any _).mono ?_; rintro e w1 ⟨rfl, b1⟩)
    all_goals first | (exfalso; omega) | skip
    have z1 := b1.size
    have x1 : Nums w1 w1.heap.size A xs := fun h0 => by
      obtain ⟨ad, e, hB, hc⟩ := (HX.out.below b1) h0
      exact ⟨ad, e, by omega, hc⟩
    have X1 := Lib.hid x1
    clear x1
    refine (lent_any A cap xs w1 HA.out g2 X1.out).mono ?_
    rintro e w2 ⟨g, cp, rfl, hcp, hown, b2⟩
    have z2 := b2.size
    have o2 := Lib.hid (Nums.own (m := xs.length + 2) hown)
    have d1 : w2.cell? ⟨g, xs.length, none⟩ = some (.int .u64 8999229) := by
      have := hown.cells (g := g) rfl xs.length (.int .u64 8999229) (by rw [List.getElem?_append_right (by rw [numC_len]; omega), numC_len]; simp)
      rwa [add_zero_off] at this
    have d2 : w2.cell? ⟨g, xs.length + 1, none⟩ = some (.int .u64 8999228) := by
      have := hown.cells (g := g) rfl (xs.length + 1) (.int .u64 8999228) (by rw [List.getElem?_append_right (by rw [numC_len]; omega), numC_len]; simp)
      rwa [add_zero_off] at this
    have hg : g < w2.heap.size := (hown.lt g rfl).2
    clear hown
    obtain ⟨X, hX⟩ : ∃ X : ByteArray, strL (b.data.toList ++ wordsL xs) = .string X := ⟨_, rfl⟩
    have cP : Hid (∀ (A : Option Addr) (c : Nat) (w : World), Nums w w.heap.size A xs → Calls Try.prog 10 #[.string b, .slice A xs.length c] w fun e w' => e = .returned (.string X) ∧ Below w.heap.size w w') :=
      Lib.hid (fun A c w h => by rw [← hX]; exact put_any b A c xs w g1 g2 h HB.out)
    have cR : Hid (∀ (A : Option Addr) (c : Nat) (w : World), Nums w w.heap.size A xs → Calls Try.prog 12 #[.string b, .slice A xs.length c] w fun e w' => e = .returned (.string X) ∧ Below w.heap.size w w') :=
      Lib.hid (fun A c w h => by rw [← hX]; exact rPut_any b A c xs w g1 g2 h HB.out)
    have cS : Hid (∀ w : World, Calls Try.prog 13 #[.string c] w fun e w' => e = .returned (.int .u32 (sumL c.data.toList)) ∧ Below w.heap.size w w') := Lib.hid (fun w => sum_any c w (by unfold maxLen; omega))
    have cT : Hid (∀ w : World, Calls Try.prog 14 #[.string c] w fun e w' => e = .returned (.int .u32 (sumL c.data.toList)) ∧ w = w') := Lib.hid (fun w => rsum_any c w (by unfold maxLen; omega))
    have cC : Hid (∀ w : World, Calls Try.prog 15 #[.string t, .string c] w fun e w' => e = .returned (.tuple #[.string (chunkS t c), .int .i64 (chunkE t c)]) ∧ Below w.heap.size w w') := Lib.hid (fun w => chunk_any t c w (by unfold maxLen; omega))
    have cD : Hid (∀ w : World, Calls Try.prog 16 #[.string t, .string c] w fun e w' => e = .returned (.tuple #[.string (chunkS t c), .int .i64 (chunkE t c)]) ∧ Below w.heap.size w w') := Lib.hid (fun w => rchunk_any t c w (by unfold maxLen; omega))
    clear hX
    generalize sumL c.data.toList = S at *
    generalize chunkS t c = CS at *
    generalize chunkE t c = CE at *
    go_wp2_with fail
    refine (cP.out _ _ _ o2.out).mono ?_
    rintro e w3 ⟨rfl, b3⟩
    have z3 := b3.size
    have o3 := Lib.hid (o2.out.below b3)
    have d3 := (b3.cell (p := ⟨g, xs.length, none⟩) hg).trans d1
    have d4 := (b3.cell (p := ⟨g, xs.length + 1, none⟩) hg).trans d2
    have x3 : Hid (Nums w3 w2.heap.size A xs) := Lib.hid (fun h0 => by
      obtain ⟨ad, e, hB2, hc⟩ := (X1.out.below b2) h0
      have : Nums w2 w2.heap.size A xs := fun _ => ⟨ad, e, by omega, hc⟩
      exact (this.below b3) h0)
    clear d1 d2
    go_wp2_with fail
    refine (whole_any g cp cap w2.heap.size A xs w3 g2 hcp o3.out x3.out d3 d4).mono ?_
    rintro e w4 ⟨rfl, q, rfl⟩
    clear d3 d4
    go_wp2_with fail
    refine (cR.out _ _ _ (fun h0 => by
      obtain ⟨ad, e, hB2, hc⟩ := x3.out h0
      exact ⟨ad, e, Nat.lt_of_lt_of_le hB2 z3, hc⟩)).mono ?_
    rintro e w5 ⟨rfl, b5⟩
    go_wp2_with fail
    refine (cS.out _).mono ?_
    rintro e w6 ⟨rfl, b6⟩
    go_wp2_with fail
    refine (cT.out _).mono ?_
    rintro e w' ⟨rfl, rfl⟩
    go_wp2_with fail
    refine (cC.out _).mono ?_
    rintro e w7 ⟨rfl, b7⟩
    go_wp2_with fail
    refine (cD.out _).mono ?_
    rintro e w8 ⟨rfl, b8⟩
    go_wp2
    go_ret
    refine ⟨rfl, ?_⟩
    have z5 : w3.heap.size ≤ w5.heap.size := b5.size
    have z6 := b6.size; have z7 := b7.size
    have B3 := b1.trans ((b2.mono z1).trans (b3.mono (by omega)))
    have B4 : Below w.heap.size w (w3.drewN q) := ⟨B3.os, B3.tape, B3.output, B3.size, B3.block⟩
    exact B4.trans ((b5.mono (Nat.le_trans (by omega) (Nat.le_refl w3.heap.size))).trans ((b6.mono (by omega)).trans ((b7.mono (by omega)).trans (b8.mono (by omega)))))
  · clear hA hx hxb
    go_enter Try.func3, Try.ntmps3
    go_wp2_with (go_at_call 8; refine (works_any _).mono ?_; rintro e w1 ⟨rfl, b1⟩)
    all_goals first
      | (exfalso; omega)
      | (go_ret; exact ⟨rfl, b1⟩)
end Go.Proofs.Ytmfbjmffodnaeaa.Wk
