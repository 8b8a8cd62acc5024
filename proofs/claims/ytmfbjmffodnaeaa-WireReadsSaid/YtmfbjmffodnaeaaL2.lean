/- The law WireHarm returns true, for every argument. No condition beyond what the theorem states. -/
import Derived.Test.YtmfbjmffodnaeaaP2
import Derived.Test.YtmfbjmffodnaeaaW10
import Derived.Deep.DeepCutAuto
import Derived.Deep.RegionWith
import Derived.BigRegion
set_option linter.unusedVariables false
namespace Go.Proofs.Ytmfbjmffodnaeaa.Wk
open Go.ChangeShapes Go.WideShapes Go.ChangeAt Go.RowKit M

theorem mod_pos (a : Int) (m : Nat) (h : 0 ≤ a) : ∃ q : Nat, a % ((m : Int) + 8) = q ∧ a.tmod ((m : Int) + 8) = q ∧ q < m + 8 := by
  have h1 : 0 ≤ a % ((m : Int) + 8) := Int.emod_nonneg _ (by omega)
  have h2 : a % ((m : Int) + 8) < (m : Int) + 8 := Int.emod_lt_of_pos _ (by omega)
  refine ⟨(a % ((m : Int) + 8)).toNat, by omega, ?_, by omega⟩
  rw [Int.tmod_eq_emod_of_nonneg h]; omega
theorem mod_neg (a : Int) (m : Nat) (h : a < 0) : ∃ q : Nat, -(a + 1).tmod ((m : Int) + 8) = q ∧ q < m + 8 := by
  obtain ⟨q, _, h2, h3⟩ := mod_pos (-(a + 1)) m (by omega)
  refine ⟨q, ?_, h3⟩
  rw [← h2, Int.neg_tmod]

theorem xor_byte (x k : UInt8) : bits .xor .u8 (x.toNat : Int) (k.toNat : Int) = ((x ^^^ k).toNat : Int) := by
  rw [u8_xor_nat _ _ x.toNat_lt k.toNat_lt, UInt8.toNat_xor]
theorem conv_byte (g : Nat) (y : UInt8) (w : World) (h : w.cell? ⟨g, 0, none⟩ = some (.int .u8 y.toNat)) :
    (convert 59 9 (.slice (some ⟨g, 0, none⟩) 1 1)).run Try.prog w = .ok (.string ⟨#[y]⟩) w := by
  refine run_convert_bytes_back w 59 9 5 ⟨g, 0, none⟩ 1 [y] Try.underlying59 Try.underlying5 Try.underlying9 fun j hj => ?_
  obtain rfl : j = 0 := by simp at hj; omega
  exact h
theorem xor_ne (x k : UInt8) (h : ¬ (k.toNat : Int) = 0) : x ≠ x ^^^ k := by
  intro e
  have e2 : x.toNat ^^^ 0 = x.toNat ^^^ k.toNat := by rw [Nat.xor_zero, ← UInt8.toNat_xor, ← e]
  have := xor_cancel' _ _ _ e2
  omega

set_option maxHeartbeats 2000000 in
set_option maxRecDepth 100000 in
theorem WireHarm_walk (t c : ByteArray) (a : Int) (by_ : Int) (w : World) (w0 : t.size ≤ maxLen) (w1 : c.size ≤ maxLen) (w2 : (Lit.int .i64 a).wf = true) (w3 : (Lit.int .u8 by_).wf = true) :
    Calls Try.prog 7 #[.string t, .string c, .int .i64 a, .int .u8 by_] w fun e w' => e = .returned (.bool true) ∧ Below w.heap.size w w' := by
  obtain ⟨a1, a2⟩ := bounds_i64 w2
  obtain ⟨y1, y2⟩ := bounds_u8 w3
  clear w2 w3
  unfold maxLen at w0 w1
  obtain ⟨k, rfl⟩ : ∃ k : UInt8, by_ = (k.toNat : Int) := ⟨UInt8.ofNat by_.toNat, by rw [toNat_ofNat _ (by omega)]; omega⟩
  by_cases hbig : c.size ≤ 33554431 ∧ t.size ≤ 33554431 ∧ ¬ (k.toNat : Int) = 0
  · obtain ⟨g1, g2, g3⟩ := hbig
    clear w0 w1
    have g3b : ((k.toNat : Int) == 0) = false := beq_eq_false_iff_ne.2 g3
    have cC : Hid (∀ w : World, Calls Try.prog 15 #[.string t, .string c] w fun e w' => e = .returned (.tuple #[.string (chunkS t c), .int .i64 (chunkE t c)]) ∧ Below w.heap.size w w') :=
      Lib.hid (fun w => chunk_any t c w (by unfold maxLen; omega))
    by_cases hE : chunkE t c = 0
    · have hcs := chunkS_size t c hE
      have hcs1 : (chunkS t c).size ≤ 12 + c.size := by omega
      have hcs2 : 12 + c.size ≤ (chunkS t c).size := by omega
      clear hcs
      have HH : Hid (∀ (i : Nat) (hi : i < (chunkS t c).size) (hi4 : i < 4 ∨ 8 ≤ i) (y : UInt8) (hy : (chunkS t c)[i] ≠ y) (hok : i < 4 → okc y = true), nV (chg (chunkS t c) i y) 0 = .tuple #[.string ⟨#[]⟩, .string ⟨#[]⟩, .int .i64 0, .int .i64 22]) :=
        Lib.hid (fun i hi hi4 y hy hok => harm_next t c hE i hi hi4 y hy hok)
      rw [hE] at cC
      clear hE
      generalize chunkS t c = C at *
      obtain ⟨a0, ha0, hp1, hp2⟩ : ∃ a0 : Int, a0 = (if a < 0 then -(a + 1) else a) ∧ 0 ≤ a0 ∧ a0 ≤ 9223372036854775807 := ⟨_, rfl, by split <;> omega, by split <;> omega⟩
      have HA := Lib.hid ha0
      clear ha0
      obtain ⟨q, hq0, hq1, hq2⟩ := mod_pos a0 c.size hp1
      obtain ⟨i, hi0, hiC, hi4⟩ : ∃ i : Nat, i = (if q < 4 then q else q + 4) ∧ i < C.size ∧ (i < 4 ∨ 8 ≤ i) := ⟨_, rfl, by split <;> omega, by split <;> omega⟩
      have HI := Lib.hid hi0
      clear hi0
      have hx := xor_byte C[i] k
      have hy := xor_ne C[i] k g3
      generalize C[i] ^^^ k = y at *
      have HY : Hid (C[i] ≠ y) := Lib.hid hy
      clear hy
      go_enter Try.func7, Try.ntmps7
      go_upto_if 45 with (first
        | (go_at_call 8; refine (works_any _).mono ?_; rintro e w1 ⟨rfl, b1⟩)
        | (go_at_call 15; refine (cC.out _).mono ?_; rintro e w3 ⟨rfl, b3⟩))
      go_cut [2] (fun v wx => v = .int .i64 a0 ∧ w3 = wx)
      case first =>
        by_cases hneg : a < 0
        · have hA := HA.out
          rw [if_pos hneg] at hA
          clear HA
          have hA2 : -(a + 1) = a0 := hA.symm
          clear hA
          go_wp2
          go_meet
          exact ⟨rfl, rfl⟩
        · have hA := HA.out
          rw [if_neg hneg] at hA
          subst hA
          go_wp2
          go_meet
          exact ⟨rfl, rfl⟩
      case rest =>
        obtain ⟨rfl, rfl⟩ := hcut
        clear HA
        go_upto_if 55 with (fail)
        go_cut [2] (fun v wx => v = .int .i64 i ∧ w3 = wx)
        case first =>
          by_cases h4 : q < 4
          · have hI := HI.out
            rw [if_pos h4] at hI
            clear HI
            subst hI
            go_wp2
            go_meet
            exact ⟨rfl, rfl⟩
          · have hI := HI.out
            rw [if_neg h4] at hI
            clear HI
            subst hI
            go_wp2
            go_meet
            exact ⟨by go_num, rfl⟩
        case rest =>
          obtain ⟨rfl, rfl⟩ := hcut
          clear HI hq0 hq1
          have hiD : ¬ (C.size : Int) ≤ i := by omega
          have hiE : (i : Int) < C.size := by omega
          by_cases hbad : (i : Int) < 4 ∧ ((y.toNat : Int) < 97 ∨ (122 : Int) < y.toNat)
          · obtain ⟨h4, h5⟩ := hbad
            go_upto_region 17 with (fail)
            all_goals first | (exfalso; omega) | skip
            all_goals
              go_ret
              exact ⟨rfl, b1.trans (b3.mono b1.size)⟩
          · have hok : i < 4 → okc y = true := fun h => (okc_iff y).2 (by omega)
            have HN : Hid (∀ w : World, Calls Try.prog 19 #[.string (C.extract 0 i ++ ⟨#[y]⟩ ++ C.extract (i + 1) C.size), .int .i64 0] w fun e w' => e = .returned (.tuple #[.string ⟨#[]⟩, .string ⟨#[]⟩, .int .i64 0, .int .i64 22]) ∧ Below w.heap.size w w') :=
              Lib.hid (fun w => by
                have e := HH.out i hiC hi4 y HY.out hok
                rw [← e]; exact next_any (chg C i y) 0 w (by rw [chg_size C i y hiC]; omega) (by omega) (by omega))
            clear HH cC hok HY
            go_upto_region 17 with (fail)
            all_goals first | (exfalso; omega) | skip
            all_goals
              have hcv := fun (g : Nat) (W : World) h => conv_byte g y W h
              have hw1 : IntKind.i64.wrap ((i : Int) + 1) = (i : Int) + 1 := IntWalk.i64_in _ (by omega)
              have hw2 : 0 ≤ (i : Int) + 1 := by omega
              have hw3 : ((i : Int) + 1).toNat = i + 1 := by omega
              have hw4 : (i : Int) + 1 ≤ C.size := by omega
              clear hbad
            all_goals
              go_region_with (first | (go_at_call 19; (with_reducible refine (HN.out _).mono ?_); rintro e w4 ⟨rfl, b4⟩))
            all_goals
              go_wp2
              go_ret
              refine ⟨rfl, ?_⟩
              have z1 := b1.size; have z3 := b3.size
              exact b1.trans ((b3.mono z1).trans ((((Below.refl w.heap.size w3).alloc (by omega) _).drew).trans (b4.mono (by simp; omega))))
    · have hcs := chunkS_bad t c hE
      rw [hcs] at cC
      clear hcs
      generalize chunkE t c = E at *
      go_enter Try.func7, Try.ntmps7
      go_wp2_with (first
        | (go_at_call 8; refine (works_any _).mono ?_; rintro e w1 ⟨rfl, b1⟩)
        | (go_at_call 15; refine (cC.out _).mono ?_; rintro e w3 ⟨rfl, b3⟩))
      go_ret
      exact ⟨rfl, b1.trans (b3.mono b1.size)⟩
  · by_cases hk : (k.toNat : Int) = 0
    · have g3b : ((k.toNat : Int) == 0) = true := beq_iff_eq.2 hk
      go_enter Try.func7, Try.ntmps7
      go_wp2_with (go_at_call 8; refine (works_any _).mono ?_; rintro e w1 ⟨rfl, b1⟩)
      all_goals
        go_ret
        exact ⟨rfl, b1⟩
    · have g3b : ((k.toNat : Int) == 0) = false := beq_eq_false_iff_ne.2 hk
      go_enter Try.func7, Try.ntmps7
      go_wp2_with (go_at_call 8; refine (works_any _).mono ?_; rintro e w1 ⟨rfl, b1⟩)
      all_goals first
        | (exfalso; omega)
        | (go_ret; exact ⟨rfl, b1⟩)
end Go.Proofs.Ytmfbjmffodnaeaa.Wk
