/- What LentNumbers, SameNumbers and WholeNumbers answer over words that lie in memory. -/
import Derived.Test.YtmfbjmffodnaeaaW10
import Derived.Laws.MakeOwn
import Derived.Laws.AppendOwnNone
set_option linter.unusedVariables false
namespace Go.Proofs.Ytmfbjmffodnaeaa.Wk
open Go.ChangeShapes Go.WideShapes Go.ChangeAt Go.RowKit M

theorem info34 : (Try.prog.info? 34).map (fun i => (i.zero, i.size, i.bytes)) = some (some (.int .u64 0), 1, 8) := by kernel_rfl
/-- The cells of words. -/
def numC (xs : List Nat) : List Value := xs.map fun (n : Nat) => Value.int .u64 (n : Int)
theorem numC_len (xs : List Nat) : (numC xs).length = xs.length := by simp [numC]
theorem numC_one (xs : List Nat) : ∀ u ∈ numC xs, u.oneCell' = true := by intro u hu; simp [numC] at hu; obtain ⟨n, _, rfl⟩ := hu; rfl
theorem add_zero_off (g j : Nat) : (⟨g, 0, none⟩ : Addr).add j = ⟨g, j, none⟩ := by unfold Addr.add; split <;> simp_all
/-- Words that the call owns, read. -/
theorem Nums.own {w : World} {base g cap m : Nat} {ys : List Value} {xs : List Nat} (h : w.ownsRow base 34 1 (.slice (some ⟨g, 0, none⟩) m cap) m (numC xs ++ ys)) : Nums w w.heap.size (some ⟨g, 0, none⟩) xs := by
  intro _
  have hlt := (h.lt g rfl).2
  refine ⟨_, rfl, hlt, fun j hj => ?_⟩
  refine h.cells (g := g) rfl j _ ?_
  rw [List.getElem?_append_left (by rw [numC_len]; exact hj)]
  simp [numC, List.getElem?_eq_getElem hj]

/-- What LentNumbers leaves: a copy with two words behind it. -/
def LentPost (xs : List Nat) (w : World) (e : Ending) (w' : World) : Prop :=
  ∃ g cap : Nat, e = .returned (.slice (some ⟨g, 0, none⟩) xs.length cap) ∧ xs.length + 2 ≤ cap ∧ w'.ownsRow w.heap.size 34 1 (.slice (some ⟨g, 0, none⟩) (xs.length + 2) cap) (xs.length + 2) (numC xs ++ [.int .u64 8999229, .int .u64 8999228]) ∧ Below w.heap.size w w'

theorem own_len {w : World} {base e size n : Nat} {v : Value} {xs : List Value} (h : w.ownsRow base e size v n xs) (h0 : 0 < n) : ∃ g cap, v = .slice (some ⟨g, 0, none⟩) n cap ∧ n ≤ cap ∧ cap ≤ maxLen := by
  rcases h.2 with ⟨_, h1⟩ | ⟨g, cap, cur, hv, _, _, h2, h3, _⟩
  · omega
  · exact ⟨g, cap, hv, h2, h3⟩

set_option maxHeartbeats 1000000 in
set_option maxRecDepth 100000 in
theorem lent_any (A : Option Addr) (c : Nat) (xs : List Nat) (w : World) (hA : A = none → c = 0) (hn : xs.length ≤ 33554431) (hx : Nums w w.heap.size A xs) :
    Calls Try.prog 9 #[.slice A xs.length c] w (LentPost xs w) := by
  obtain ⟨i0, hi, hz0, hz1, hz2⟩ := info_parts info34
  obtain ⟨Mc, hM⟩ : ∃ Mc, Mc = madeCells (Value.int .u64 0).cells (((xs.length : Int) + 2).toNat * i0.size) := ⟨_, rfl⟩
  have hMs : Mc.size = xs.length + 2 := by rw [hM, size_madeCells, hz1]; omega
  have hmk : ∀ W : World, (Instr.makeSlice 22 (.int .i64 0) (.int .i64 ((xs.length : Int) + 2))).run Try.prog W = .ok (.slice (some ⟨W.heap.size, 0, none⟩) 0 (xs.length + 2)) (W.alloc (.cells Mc 34)) := fun W => by
    have h := run_make (P := Try.prog) W 22 34 i0 (.int .u64 0) Try.underlying22 hi hz0 .i64 .i64 0 ((xs.length : Int) + 2) (by omega) (by omega) (by rw [hz2]; omega) (by omega)
    rw [← hM, show ((xs.length : Int) + 2).toNat = xs.length + 2 by omega] at h
    simpa using h
  clear hM
  have own0 : (w.alloc (.cells Mc 34)).ownsRow w.heap.size 34 1 (.slice (some ⟨w.heap.size, 0, none⟩) 0 (xs.length + 2)) 0 [] :=
    World.ownsRow_made w Mc (xs.length + 2) (Nat.le_refl _) (by unfold maxLen; omega) (by rw [hMs]; omega)
  rcases A with _ | ad
  · have hl : xs.length = 0 := by
      rcases Nat.eq_zero_or_pos xs.length with h | h
      · exact h
      · obtain ⟨_, h1, _⟩ := hx h
        cases h1
    have hxs : xs = [] := List.eq_nil_of_length_eq_zero hl
    subst hxs
    obtain rfl := hA rfl
    have hmk2 : ∀ W : World, (Instr.makeSlice 22 (.int .i64 0) (.int .i64 2)).run Try.prog W = .ok (.slice (some ⟨W.heap.size, 0, none⟩) 0 2) (W.alloc (.cells Mc 34)) := hmk
    clear hmk hx
    go_enter Try.func9, Try.ntmps9
    go_wp2_with (at_builtin; refine wpList_append_own_none rfl _ _ 22 rfl w.heap.size 34 i0 1 Try.underlying22 hi _ _ _ rfl own0 rfl ?_)
    go_ret
    have hM2 : Mc.size = 2 := hMs
    obtain ⟨a, b, rfl⟩ : ∃ a b, Mc = #[a, b] := by
      obtain ⟨l⟩ := Mc
      match l, hM2 with
      | [a, b], _ => exact ⟨a, b, rfl⟩
    refine ⟨w.heap.size, 2, rfl, by simp, ⟨by simp [numC], .inr ⟨w.heap.size, 2, #[.int .u64 8999229, .int .u64 8999228], rfl, Nat.le_refl _, ?_, by simp, by unfold maxLen; omega, rfl, by simp [numC]⟩⟩, ((Below.refl w.heap.size w).alloc (Nat.le_refl _) _).alloc (by simp) _⟩
    exact (Below.heap_alloc _ _ _ (by simp)).trans (heap_alloc_new w _)
  · clear hA
    go_enter Try.func9, Try.ntmps9
    go_wp2_with (at_builtin; refine wpList_append_own _ rfl _ _ 22 rfl w.heap.size 34 i0 (.int .u64 0) 1 8 Try.underlying22 hi hz0 hz1 hz2 rfl (by decide) _ _ _ rfl own0 ad xs.length c (numC xs) rfl (by rw [numC_len]; omega) ?c1 (numC_one xs) ?c3 ?c4 ?c5 ?_)
    case c1 =>
      intro j u hj
      have hjl : j < xs.length := by
        have := (List.getElem?_eq_some_iff.1 hj).1
        rw [numC_len] at this; exact this
      obtain ⟨ad', h1, h2, h3⟩ := hx (by omega)
      injection h1 with h1
      subst h1
      have hbl : (ad.add j).block = ad.block := by unfold Addr.add; split <;> rfl
      have h4 := h3 j hjl
      simp [numC, List.getElem?_eq_getElem hjl] at hj
      subst hj
      rw [World.cell?_alloc_lt _ _ _ (by rw [hbl]; exact h2)]; exact h4
    case c3 => unfold maxLen; omega
    case c4 => omega
    case c5 => simp
    intro v1 w1 hown1 hgrow1 _
    have hb1 := ((Below.refl w.heap.size w).alloc (Nat.le_refl _) (.cells Mc 34)).grown hgrow1 (by simp) (fun q hq => (own0.lt q hq).1)
    have hz := hb1.size
    clear hx hmk
    go_wp2_with (at_builtin; refine wpList_append_own _ rfl _ _ 22 rfl w.heap.size 34 i0 (.int .u64 0) 1 8 Try.underlying22 hi hz0 hz1 hz2 rfl (by decide) _ _ _ rfl (hown1.alloc _) ⟨w1.heap.size, 0, none⟩ 2 2 [.int .u64 8999229, .int .u64 8999228] rfl rfl ?d1 ?d2 ?d3 ?d4 ?d5 ?_)
    case d1 =>
      intro j u hj
      match j, hj with
      | 0, hj => simp at hj; subst hj; simp [Addr.add]
      | 1, hj => simp at hj; subst hj; simp [Addr.add]
    case d2 => intro u hu; simp at hu; rcases hu with rfl | rfl <;> rfl
    case d3 => unfold maxLen; omega
    case d4 => omega
    case d5 => simp; omega
    intro v2 w2 hown2 hgrow2 _
    obtain ⟨g, cap, rfl, hc1, hc2⟩ := own_len hown2 (by omega)
    have hb2 := (hb1.alloc hz (.cells #[.int .u64 8999229, .int .u64 8999228] 34)).grown hgrow2 (by simp; omega) (fun q hq => (hown1.lt q hq).1)
    go_wp2
    go_ret
    exact ⟨g, cap, rfl, by omega, by simpa using hown2, hb2⟩
theorem drewN_zero' (w : World) : w = w.drewN 0 := rfl
set_option maxHeartbeats 1000000 in
set_option maxRecDepth 100000 in
theorem same_any (A A' : Option Addr) (c c' B : Nat) (xs : List Nat) (w : World) (hn : xs.length ≤ 33554431) (hx : Nums w B A xs) (hy : Nums w B A' xs) :
    Calls Try.prog 30 #[.slice A xs.length c, .slice A' xs.length c'] w fun e w' => e = .returned (.bool true) ∧ ∃ q, w' = w.drewN q := by
  have HX := Lib.hid hx
  have HY := Lib.hid hy
  clear hx hy
  go_enter Try.func30, Try.ntmps30
  go_wp2
  go_loopw [5] (fun i wr => ∃ k q : Nat, k ≤ xs.length ∧ i = .int .i64 k ∧ wr = w.drewN q)
    (fun i _ => xs.length - (intOf i).toNat)
  case atStart => exact ⟨0, 0, Nat.zero_le _, rfl, rfl⟩
  case round =>
    obtain ⟨k, q, hk, rfl, rfl⟩ := hrel
    by_cases hlt : k < xs.length
    · obtain ⟨ad, rfl, _, hc⟩ := HX.out (by omega)
      obtain ⟨ad', rfl, _, hc'⟩ := HY.out (by omega)
      have d1 := hc k hlt
      have d2 := hc' k hlt
      have hk1 : (k : Int) < (xs.length : Int) := by omega
      clear hc hc'
      generalize xs[k] = v at *
      go_wp2_with fail
      go_quiet (fail)
      go_wp2
      go_roundw
      case rel => exact ⟨k + 1, _, by omega, by go_num, rfl⟩
      case measure => simp [intOf]; omega
    · go_wp2
      go_ret
      exact ⟨rfl, q, rfl⟩

set_option maxHeartbeats 1000000 in
set_option maxRecDepth 100000 in
theorem whole_any (g cap c B : Nat) (A : Option Addr) (xs : List Nat) (w : World) (hn : xs.length ≤ 33554431) (hcap : xs.length + 2 ≤ cap) (hx : Nums w B (some ⟨g, 0, none⟩) xs) (hy : Nums w B A xs)
    (h1 : w.cell? ⟨g, xs.length, none⟩ = some (.int .u64 8999229)) (h2 : w.cell? ⟨g, xs.length + 1, none⟩ = some (.int .u64 8999228)) :
    Calls Try.prog 11 #[.slice (some ⟨g, 0, none⟩) xs.length cap, .slice A xs.length c] w fun e w' => e = .returned (.bool true) ∧ ∃ q, w' = w.drewN q := by
  have HX := Lib.hid hx
  have HY := Lib.hid hy
  clear hx hy
  go_enter Try.func11, Try.ntmps11
  go_wp2_with (go_at_call 30; refine (same_any _ _ _ _ B xs _ hn HX.out HY.out).mono ?_; rintro e w1 ⟨rfl, q, rfl⟩)
  go_ret
  exact ⟨rfl, q, rfl⟩
end Go.Proofs.Ytmfbjmffodnaeaa.Wk
