/- Where objects begin, and in which space a word lies: what the heap's questions answer. -/
import Derived.Test.YtklbgccfcfldaaaP
import Derived.Test.YtklbgccfcfldaaaM4
import Derived.Test.YtklbgccfcfldaaaA1
import Derived.Test.YtklbgccfcfldaaaA4
import Derived.Deep.RegionHeld3
import Derived.Deep.RegionLaw
import Derived.Deep.RegionWith
import Derived.RegionTactic
import Derived.Handy
import Derived.StillTailTactics
set_option linter.unusedVariables false
namespace Go.Proofs.Ytklbgccfcfldaaa.Wk
open Go.ChangeShapes Go.WideShapes Go.ChangeAt Go.RowKit M

theorem bit_test (st : Nat → Bool) (a : Nat) : (bits .and .u64 ((bitsOf st (a / 64) : Int) / (2 : Int) ^ (a % 64)) 1 == 1) = st a := by
  have hl := bitsOf_lt st (a / 64)
  have hd : ((bitsOf st (a / 64) : Int) / (2 : Int) ^ (a % 64)) = ((bitsOf st (a / 64) / 2 ^ (a % 64) : Nat) : Int) := by
    rw [Int.natCast_ediv, Int.natCast_pow]; rfl
  have hb : bitsOf st (a / 64) / 2 ^ (a % 64) < 18446744073709551616 := Nat.lt_of_le_of_lt (Nat.div_le_self _ _) hl
  have ht := bitsOf_test st a
  rw [Nat.testBit_eq_decide_div_mod_eq] at ht
  rw [hd, ← ht]
  generalize bitsOf st (a / 64) / 2 ^ (a % 64) = x at *
  rw [mask _ 1 1 (by decide) (by omega) (by omega) (by omega), Bool.eq_iff_iff]
  simp
  omega

set_option maxHeartbeats 1000000 in
set_option maxRecDepth 100000 in
theorem startsAt_any (own : Own) (w : World) (p : Nat) (s : Hp) (g : Gh) (h : Rep own w p s g) (a : Nat) (ha : a ≤ 268435455) :
    Calls Try.prog 49 #[.pointer (some ⟨p, 0, none⟩), .int .i64 a] w fun e w' => e = .returned (.bool (s.st a)) ∧ w = w' := by
  have hn := h.w0.n
  have c0 := h.c0
  have c1 := h.c1
  by_cases hl : a < s.n
  · have hb := h.bits (a / 64) (by omega)
    have ht := bit_test s.st a
    have hlt := bitsOf_lt s.st (a / 64)
    have i1 : ((a : Int)) < s.n := by omega
    have i3 : (a / 64 : Nat) < (s.n + 63) / 64 := by omega
    clear h
    go_enter Try.func49, Try.ntmps49
    go_wp2
    go_ret
    exact ⟨rfl, rfl⟩
  · have : s.st a = false := by
      cases e : s.st a
      · rfl
      · have := h.w0.st a e; omega
    have i1 : (s.n : Int) ≤ (a : Int) := by omega
    rw [this]
    clear h
    go_enter Try.func49, Try.ntmps49
    go_wp2
    go_ret
    exact ⟨rfl, rfl⟩

theorem spaceAt_of {s : Hp} {a k : Nat} (h1 : 1 ≤ k) (h5 : k ≤ 5) (hk : inA s k a = true) (hn : ∀ j, 1 ≤ j → j < k → inA s j a = false) : spaceAt s a = k := by
  unfold spaceAt
  rcases (by omega : k = 1 ∨ k = 2 ∨ k = 3 ∨ k = 4 ∨ k = 5) with rfl | rfl | rfl | rfl | rfl
  · simp [hk]
  · simp [hk, hn 1 (by omega) (by omega)]
  · simp [hk, hn 1 (by omega) (by omega), hn 2 (by omega) (by omega)]
  · simp [hk, hn 1 (by omega) (by omega), hn 2 (by omega) (by omega), hn 3 (by omega) (by omega)]
  · simp [hk, hn 1 (by omega) (by omega), hn 2 (by omega) (by omega), hn 3 (by omega) (by omega), hn 4 (by omega) (by omega)]
theorem spaceAt_no {s : Hp} {a : Nat} (hn : ∀ j, 1 ≤ j → j < 6 → inA s j a = false) : spaceAt s a = 0 := by
  unfold spaceAt
  simp [hn 1 (by omega) (by omega), hn 2 (by omega) (by omega), hn 3 (by omega) (by omega), hn 4 (by omega) (by omega), hn 5 (by omega) (by omega)]
theorem ret_u8 {a b : Int} (h : a = b) : Ending.returned (.int .u8 a) = .returned (.int .u8 b) := by rw [h]

set_option maxHeartbeats 1000000 in
set_option maxRecDepth 100000 in
theorem spaceAt_any (own : Own) (w : World) (p : Nat) (s : Hp) (g : Gh) (h : Rep own w p s g) (a : Nat) (ha : a ≤ 268435455) :
    Calls Try.prog 86 #[.pointer (some ⟨p, 0, none⟩), .int .i64 a] w fun e w' => e = .returned (.int .u8 (spaceAt s a)) ∧ w = w' := by
  have HR := Lib.hid h
  clear h
  go_enter Try.func86, Try.ntmps86
  go_wp2
  go_loop [5] (fun v => ∃ k : Nat, 1 ≤ k ∧ k ≤ 6 ∧ v = .int .u8 k ∧ ∀ j, 1 ≤ j → j < k → inA s j a = false) (fun v => 6 - (intOf v).toNat)
  case atStart => exact ⟨1, by omega, by omega, rfl, fun j h1 h2 => by omega⟩
  case round =>
    obtain ⟨k, h1, h6, rfl, hn⟩ := hrel
    by_cases h5 : k ≤ 5
    · have cb := HR.out.ab k (by omega)
      have ce := HR.out.ae k (by omega)
      have h5' : (k : Int) ≤ 5 := by omega
      go_wp2
      · go_ret
        have hb : (s.ar k).b ≤ a := by assumption
        have he : a < (s.ar k).e := by assumption
        exact ⟨ret_u8 (by rw [spaceAt_of h1 h5 (by unfold inA; simp; omega) hn]), rfl⟩
      all_goals
        have hno : inA s k a = false := by
          unfold inA
          have hq : ¬ (s.ar k).b ≤ a ∨ ¬ a < (s.ar k).e := by first | exact .inl (by assumption) | exact .inr (by assumption)
          simp; omega
        go_round
        case rel =>
          refine ⟨k + 1, by omega, by omega, by go_num, fun j q1 q2 => ?_⟩
          by_cases e : j = k
          · subst e; exact hno
          · exact hn j q1 (by omega)
        case measure => simp [intOf]; omega
    · have hk : k = 6 := by omega
      subst hk
      go_wp2
      go_ret
      exact ⟨ret_u8 (by rw [spaceAt_no hn]; rfl), rfl⟩

/-- A word that may be an address. -/
theorem obV_nat {o : Int} (h : 0 ≤ o) (hk : isK 3 o = true) : obV o = (atO o : Int) ∧ atO o ≤ 268435455 ∧ 1 ≤ atO o := by
  have h3 := hk
  rw [isK_iff, tag3] at h3
  unfold atO
  rw [obV_y o hk]; omega

set_option maxHeartbeats 1000000 in
set_option maxRecDepth 100000 in
theorem is_any (own : Own) (w : World) (p : Nat) (s : Hp) (g : Gh) (h : Rep own w p s g) (o : Int) (h0 : 0 ≤ o) (h2 : o ≤ 18446744073709551615) :
    Calls Try.prog 53 #[.pointer (some ⟨p, 0, none⟩), .int .u64 o] w fun e w' => e = .returned (.bool (isOb s o)) ∧ w = w' := by
  cases hk : isK 3 o
  · have he : isOb s o = false := by unfold isOb; rw [hk]; rfl
    have HW := wordOf_any o w h0 h2
    rw [hk] at HW
    rw [he]
    clear h
    go_enter Try.func53, Try.ntmps53
    go_wp2_with (go_at_call 48; refine HW.mono ?_; rintro e w' ⟨rfl, rfl⟩)
    go_ret
    exact ⟨rfl, rfl⟩
  · obtain ⟨e1, e2, e3⟩ := obV_nat h0 hk
    have he : isOb s o = s.st (atO o) := by unfold isOb; rw [hk]; rfl
    have HW := wordOf_any o w h0 h2
    rw [hk, e1] at HW
    have HS := startsAt_any own w p s g h (atO o) e2
    rw [he]
    clear h e1
    generalize atO o = a at *
    go_enter Try.func53, Try.ntmps53
    go_wp2_with (first
      | (go_at_call 48; refine HW.mono ?_; rintro e w' ⟨rfl, rfl⟩)
      | (go_at_call 49; refine HS.mono ?_; rintro e w' ⟨rfl, rfl⟩))
    go_ret
    exact ⟨rfl, rfl⟩

set_option maxHeartbeats 1000000 in
set_option maxRecDepth 100000 in
theorem space_any (own : Own) (w : World) (p : Nat) (s : Hp) (g : Gh) (h : Rep own w p s g) (o : Int) (h0 : 0 ≤ o) (h2 : o ≤ 18446744073709551615) :
    Calls Try.prog 73 #[.pointer (some ⟨p, 0, none⟩), .int .u64 o] w fun e w' => e = .returned (.int .u8 (spaceOf s o)) ∧ w = w' := by
  cases hk : isK 3 o
  · have he : spaceOf s o = 0 := by unfold spaceOf isOb; rw [hk]; rfl
    have HW := wordOf_any o w h0 h2
    rw [hk] at HW
    rw [he]
    clear h
    go_enter Try.func73, Try.ntmps73
    go_wp2_with (go_at_call 48; refine HW.mono ?_; rintro e w' ⟨rfl, rfl⟩)
    go_ret
    exact ⟨rfl, rfl⟩
  · obtain ⟨e1, e2, e3⟩ := obV_nat h0 hk
    have he : spaceOf s o = if s.st (atO o) then spaceAt s (atO o) else 0 := by unfold spaceOf isOb; rw [hk]; rfl
    have HW := wordOf_any o w h0 h2
    rw [hk, e1] at HW
    have HS := startsAt_any own w p s g h (atO o) e2
    have HA := spaceAt_any own w p s g h (atO o) e2
    rw [he]
    clear h e1
    generalize atO o = a at *
    generalize spaceAt s a = z at *
    cases hst : s.st a
    all_goals
      rw [hst] at HS
      go_enter Try.func73, Try.ntmps73
      go_wp2_with (first
        | (go_at_call 48; refine HW.mono ?_; rintro e w' ⟨rfl, rfl⟩)
        | (go_at_call 49; refine HS.mono ?_; rintro e w' ⟨rfl, rfl⟩)
        | (go_at_call 86; refine HA.mono ?_; rintro e w' ⟨rfl, rfl⟩))
      go_ret
      exact ⟨rfl, rfl⟩
theorem spaceAt_le (s : Hp) (a : Nat) : spaceAt s a ≤ 5 := by unfold spaceAt; repeat' split
                                                              all_goals omega
theorem spaceOf_le (s : Hp) (o : Int) : spaceOf s o ≤ 5 := by unfold spaceOf; split; exact spaceAt_le _ _; omega

set_option maxHeartbeats 1000000 in
set_option maxRecDepth 100000 in
theorem isYoung_any (own : Own) (w : World) (p : Nat) (s : Hp) (g : Gh) (h : Rep own w p s g) (o : Int) (h0 : 0 ≤ o) (h2 : o ≤ 18446744073709551615) :
    Calls Try.prog 54 #[.pointer (some ⟨p, 0, none⟩), .int .u64 o] w fun e w' => e = .returned (.bool (isYoung s o)) ∧ w = w' := by
  have HS := space_any own w p s g h o h0 h2
  have hz := spaceOf_le s o
  unfold isYoung
  clear h
  generalize spaceOf s o = z at *
  rcases (by omega : z = 0 ∨ z = 1 ∨ z = 2 ∨ z = 3 ∨ z = 4 ∨ z = 5) with rfl | rfl | rfl | rfl | rfl | rfl
  all_goals
    go_enter Try.func54, Try.ntmps54
    go_wp2_with (go_at_call 73; refine HS.mono ?_; rintro e w' ⟨rfl, rfl⟩)
    go_ret
    exact ⟨rfl, rfl⟩

set_option maxHeartbeats 1000000 in
set_option maxRecDepth 100000 in
theorem isStorable_any (own : Own) (w : World) (p : Nat) (s : Hp) (g : Gh) (h : Rep own w p s g) (o : Int) (h0 : 0 ≤ o) (h2 : o ≤ 18446744073709551615) :
    Calls Try.prog 27 #[.pointer (some ⟨p, 0, none⟩), .int .u64 o] w fun e w' => e = .returned (.bool (okV s o)) ∧ w = w' := by
  have HT := tag_any o w h0 h2
  have HI := is_any own w p s g h o h0 h2
  have ht := tag_le o
  have h3 : tagN o = 4 → isOb s o = false := fun e => by unfold isOb isK; rw [e]; rfl
  unfold okV
  clear h
  generalize isOb s o = b at *
  generalize tagN o = z at *
  rcases (by omega : z = 0 ∨ z = 1 ∨ z = 2 ∨ z = 3 ∨ z = 4) with rfl | rfl | rfl | rfl | rfl
  all_goals
    go_enter Try.func27, Try.ntmps27
    go_wp2_with (first
      | (go_at_call 52; refine HT.mono ?_; rintro e w' ⟨rfl, rfl⟩)
      | (go_at_call 53; refine HI.mono ?_; rintro e w' ⟨rfl, rfl⟩))
    go_ret
    exact ⟨by cases b <;> simp_all, rfl⟩
end Go.Proofs.Ytklbgccfcfldaaa.Wk
