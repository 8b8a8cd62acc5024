/- BinarySearch; risked. -/
import Derived.Test.YtpkhghjmelgpeaaGreatW24
set_option linter.unusedVariables false
namespace Go.Proofs.YtpkhghjmelgpeaaGreat.Wk
open Go.ChangeShapes Go.WideShapes Go.ChangeAt Go.RowKit M

set_option maxHeartbeats 1000000 in
theorem nanS_any (x : Int) (w : World) : Calls Tryz.prog 137 #[.int .i64 x] w fun e w' => e = .returned (.bool false) ∧ w = w' := by
  go_enter Tryz.func137, Tryz.ntmps137
  go_wp2
  go_ret
  exact ⟨by simp, rfl⟩
set_option maxHeartbeats 1000000 in
theorem nanC_any (x : Int) (w : World) : Calls Tryz.prog 150 #[.int .i64 x] w fun e w' => e = .returned (.bool false) ∧ w = w' := by
  go_enter Tryz.func150, Tryz.ntmps150
  go_wp2
  go_ret
  exact ⟨by simp, rfl⟩
set_option maxHeartbeats 1000000 in
theorem less_any (x y : Int) (b : Bool) (hb : decide (x < y) = b) (w : World) : Calls Tryz.prog 136 #[.int .i64 x, .int .i64 y] w fun e w' => e = .returned (.bool b) ∧ w = w' := by
  subst hb
  go_enter Tryz.func136, Tryz.ntmps136
  go_wp2_with (go_at_call 150; refine (nanC_any _ _).mono ?_; rintro e w' ⟨rfl, rfl⟩)
  go_ret
  exact ⟨rfl, rfl⟩

def icells (l : List Nat) : List Value := l.map fun (x : Nat) => .int .i64 x
def Pos (os : List Nat) (t : Nat) (q : Nat) : Prop := q ≤ os.length ∧ (∀ j x, os[j]? = some x → j < q → x < t) ∧ (∀ j x, os[j]? = some x → q ≤ j → t ≤ x)
def BsE (os : List Nat) (t : Nat) (w : World) (e : Ending) (w' : World) : Prop := ∃ (q : Nat) (b : Bool), e = .returned (.tuple #[.int .i64 q, .bool b]) ∧ Pos os t q ∧ w = w'
def BsRel (os : List Nat) (t : Nat) (i j : Value) : Prop := ∃ a b : Nat, i = .int .i64 a ∧ j = .int .i64 b ∧ a ≤ b ∧ b ≤ os.length ∧ (∀ q x, os[q]? = some x → q < a → x < t) ∧ (∀ q x, os[q]? = some x → b ≤ q → t ≤ x)

set_option maxHeartbeats 4000000 in
set_option maxRecDepth 100000 in
theorem bs_any (v : Value) (os : List Nat) (t : Nat) (w : World) (h : Row w 3 1 v os.length (icells os)) (hl : os.length ≤ 1099511627776) (ht : t ≤ 1099511627776) (hs : os.Pairwise (· ≤ ·)) :
    Calls Tryz.prog 124 #[v, .int .i64 t] w (BsE os t w) := by
  obtain ⟨a, c, rfl, _, hcell⟩ := h.cells
  have hmono : ∀ i j x y, os[i]? = some x → os[j]? = some y → i ≤ j → x ≤ y := fun i j x y hi hj hij => by
    rcases Nat.lt_or_ge i j with hlt | hge
    · obtain ⟨h1, rfl⟩ := List.getElem?_eq_some_iff.1 hi
      obtain ⟨h2, rfl⟩ := List.getElem?_eq_some_iff.1 hj
      exact List.pairwise_iff_getElem.1 hs i j h1 h2 hlt
    · obtain rfl : i = j := Nat.le_antisymm hij hge
      rw [hi] at hj; cases hj; exact Nat.le_refl _
  have HC := Lib.hid hcell
  have HM := Lib.hid hmono
  clear h hcell hs hmono
  go_enter Tryz.func124, Tryz.ntmps124
  go_wp2
  go_loop [7, 8] (fun i j => BsRel os t i j) (fun i j => (intOf j).toNat - (intOf i).toNat)
  case atStart => exact ⟨0, os.length, rfl, rfl, Nat.zero_le _, Nat.le_refl _, fun _ _ _ h => by omega, fun q x hq h => by have := (List.getElem?_eq_some_iff.1 hq).1; omega⟩
  case round =>
    obtain ⟨p, q, rfl, rfl, hpq, hq, h1, h2⟩ := hrel
    by_cases hlt : p < q
    · have H1 := Lib.hid h1
      have H2 := Lib.hid h2
      clear h1 h2
      have hm : (p + q) / 2 < os.length := by omega
      obtain ⟨x, hx⟩ : ∃ x, os[(p + q) / 2]? = some x := ⟨_, List.getElem?_eq_getElem hm⟩
      obtain ⟨gb, rfl, hc⟩ := HC.out ((p + q) / 2) (.int .i64 x) (by unfold icells; rw [List.getElem?_map, hx]; rfl)
      have HX := Lib.hid hx
      clear hx
      cases hxt : decide (x < t)
      · have HL := Lib.hid (less_any x t false (by rw [← hxt]; simp))
        have HXT := Lib.hid hxt
        clear hxt
        go_wp2_with (go_at_call 136; refine (HL.out _).mono ?_; rintro e w' ⟨rfl, rfl⟩)
        go_round
        case rel =>
          have hxt : ¬ x < t := by simpa using HXT.out
          refine ⟨p, (p + q) / 2, rfl, by go_num, by omega, by omega, H1.out, fun j y hj hle => ?_⟩
          have := HM.out _ _ _ _ HX.out hj hle
          omega
        case measure => simp [intOf]; omega
      · have HL := Lib.hid (less_any x t true (by rw [← hxt]; simp))
        have HXT := Lib.hid hxt
        clear hxt
        go_wp2_with (go_at_call 136; refine (HL.out _).mono ?_; rintro e w' ⟨rfl, rfl⟩)
        go_round
        case rel =>
          have hxt : x < t := by simpa using HXT.out
          refine ⟨(p + q) / 2 + 1, q, by go_num, rfl, by omega, by omega, fun j y hj hle => ?_, H2.out⟩
          have := HM.out _ _ _ _ hj HX.out (by omega)
          omega
        case measure => simp [intOf]; omega
    · obtain rfl : p = q := by omega
      have H1 := Lib.hid h1
      have H2 := Lib.hid h2
      clear h1 h2
      by_cases hn : p < os.length
      · obtain ⟨x, hx⟩ : ∃ x, os[p]? = some x := ⟨_, List.getElem?_eq_getElem hn⟩
        obtain ⟨gb, rfl, hc⟩ := HC.out p (.int .i64 x) (by unfold icells; rw [List.getElem?_map, hx]; rfl)
        clear hx
        go_wp2_with (go_at_call 137; refine (nanS_any _ _).mono ?_; rintro e w' ⟨rfl, rfl⟩)
        all_goals
          go_ret2
          exact ⟨p, _, rfl, ⟨hq, H1.out, H2.out⟩, rfl⟩
      · go_wp2_with (go_at_call 137; refine (nanS_any _ _).mono ?_; rintro e w' ⟨rfl, rfl⟩)
        all_goals
          go_ret2
          exact ⟨p, _, rfl, ⟨hq, H1.out, H2.out⟩, rfl⟩

set_option maxHeartbeats 2000000 in
set_option maxRecDepth 100000 in
theorem risked_any (b n c : Nat) (a : Option Addr) (w : World) (h : w.cell? ⟨b, 2, none⟩ = some (.slice a n c)) (hn : n ≤ c) (hl : n ≤ 1099511627776) :
    Calls Tryz.prog 122 #[.pointer (some ⟨b, 0, none⟩)] w fun e w' => e = .returned (.slice a (min n 64) c) ∧ w' = w.drew := by
  obtain ⟨m, hm⟩ : ∃ m, m = min n 64 := ⟨_, rfl⟩
  have hm1 : min (n : Int) 64 = (m : Int) := by omega
  have hm2 : (m : Int) ≤ (c : Int) := by omega
  rw [← hm]
  clear hm
  go_enter Tryz.func122, Tryz.ntmps122
  go_wp2
  go_region
  all_goals
    go_wp2
    go_ret
    exact ⟨rfl, rfl⟩
end Go.Proofs.YtpkhghjmelgpeaaGreat.Wk
