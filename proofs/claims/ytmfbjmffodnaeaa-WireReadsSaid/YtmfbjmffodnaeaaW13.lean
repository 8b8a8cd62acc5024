/- What SameFiles and Book.Files answer; the book's empty lists. -/
import Derived.Test.YtmfbjmffodnaeaaW12
set_option linter.unusedVariables false
namespace Go.Proofs.Ytmfbjmffodnaeaa.Wk
open Go.ChangeShapes Go.WideShapes Go.ChangeAt Go.RowKit M

/-- The files that a slice holds. -/
def FRd (w : World) (B : Nat) (A : Option Addr) (l : Fs) : Prop :=
  0 < l.length → ∃ g, A = some ⟨g, 0, none⟩ ∧ g < B ∧ ∀ (k : Nat) (hk : k < l.length), w.cell? ⟨g, k * 2, none⟩ = some (.string l[k].1) ∧ w.cell? ⟨g, k * 2 + 1, none⟩ = some (.string l[k].2)
theorem FRd.below {w w' : World} {B : Nat} {A : Option Addr} {l : Fs} (h : FRd w B A l) (hb : Below B w w') : FRd w' B A l := by
  intro h0
  obtain ⟨g, rfl, hg, hc⟩ := h h0
  exact ⟨g, rfl, hg, fun k hk => ⟨(hb.cell (p := ⟨g, k * 2, none⟩) hg).trans (hc k hk).1, (hb.cell (p := ⟨g, k * 2 + 1, none⟩) hg).trans (hc k hk).2⟩⟩

set_option maxHeartbeats 1000000 in
set_option maxRecDepth 100000 in
theorem sameF_any (A A' : Option Addr) (c c' B : Nat) (l : Fs) (w : World) (hn : l.length ≤ 33554431) (hx : FRd w B A l) (hy : FRd w B A' l) :
    Calls Try.prog 23 #[.slice A l.length c, .slice A' l.length c'] w fun e w' => e = .returned (.bool true) ∧ ∃ q, w' = w.drewN q := by
  have HX := Lib.hid hx
  have HY := Lib.hid hy
  clear hx hy
  go_enter Try.func23, Try.ntmps23
  go_wp2
  go_loopw [5] (fun i wr => ∃ k q : Nat, k ≤ l.length ∧ i = .int .i64 k ∧ wr = w.drewN q)
    (fun i _ => l.length - (intOf i).toNat)
  case atStart => exact ⟨0, 0, Nat.zero_le _, rfl, rfl⟩
  case round =>
    obtain ⟨k, q, hk, rfl, rfl⟩ := hrel
    by_cases hlt : k < l.length
    · obtain ⟨g, rfl, _, hc⟩ := HX.out (by omega)
      obtain ⟨g', rfl, _, hc'⟩ := HY.out (by omega)
      obtain ⟨d1, d2⟩ := hc k hlt
      obtain ⟨d3, d4⟩ := hc' k hlt
      have hk1 : (k : Int) < (l.length : Int) := by omega
      clear hc hc'
      generalize l[k].1 = s1 at *
      generalize l[k].2 = s2 at *
      go_wp2_with fail
      go_quiet (fail)
      go_wp2
      go_roundw
      case rel => exact ⟨k + 1, _, by omega, by go_num, rfl⟩
      case measure => simp [intOf]; omega
    · go_wp2
      go_ret
      exact ⟨rfl, q, rfl⟩
set_option maxRecDepth 100000 in
theorem own40 (w : World) : Calls Try.prog 40 #[.slice none 0 0] w fun e w' => e = .returned (.bool true) ∧ w = w' := by
  go_enter Try.func40, Try.ntmps40
  go_wp2
  go_rounds 1
  go_rounds 1
  go_rounds 1
  go_ret
  exact ⟨rfl, rfl⟩
set_option maxRecDepth 100000 in
theorem own41 (w : World) : Calls Try.prog 41 #[.slice none 0 0] w fun e w' => e = .returned (.bool true) ∧ w = w' := by
  go_enter Try.func41, Try.ntmps41
  go_wp2
  go_rounds 1
  go_rounds 1
  go_rounds 1
  go_ret
  exact ⟨rfl, rfl⟩
set_option maxRecDepth 100000 in
theorem own42 (w : World) : Calls Try.prog 42 #[.slice none 0 0] w fun e w' => e = .returned (.bool true) ∧ w = w' := by
  go_enter Try.func42, Try.ntmps42
  go_wp2
  go_rounds 1
  go_rounds 1
  go_rounds 1
  go_ret
  exact ⟨rfl, rfl⟩
set_option maxRecDepth 100000 in
theorem own43 (w : World) : Calls Try.prog 43 #[.slice none 0 0] w fun e w' => e = .returned (.bool true) ∧ w = w' := by
  go_enter Try.func43, Try.ntmps43
  go_wp2
  go_rounds 1
  go_rounds 1
  go_rounds 1
  go_ret
  exact ⟨rfl, rfl⟩
set_option maxRecDepth 100000 in
theorem own45 (w : World) : Calls Try.prog 45 #[.slice none 0 0] w fun e w' => e = .returned (.bool true) ∧ w = w' := by
  go_enter Try.func45, Try.ntmps45
  go_wp2
  go_rounds 1
  go_rounds 1
  go_rounds 1
  go_ret
  exact ⟨rfl, rfl⟩
set_option maxRecDepth 100000 in
theorem own46 (w : World) : Calls Try.prog 46 #[.slice none 0 0] w fun e w' => e = .returned (.bool true) ∧ w = w' := by
  go_enter Try.func46, Try.ntmps46
  go_wp2
  go_rounds 1
  go_rounds 1
  go_rounds 1
  go_ret
  exact ⟨rfl, rfl⟩
set_option maxRecDepth 100000 in
theorem own47 (w : World) : Calls Try.prog 47 #[.slice none 0 0] w fun e w' => e = .returned (.bool true) ∧ w = w' := by
  go_enter Try.func47, Try.ntmps47
  go_wp2
  go_rounds 1
  go_rounds 1
  go_rounds 1
  go_ret
  exact ⟨rfl, rfl⟩

theorem info39 : (Try.prog.info? 39).map (fun i => (i.zero, i.size, i.bytes)) = some (some (.slice none 0 0), 1, 24) := by kernel_rfl
/-- The book: its files alone, each a slice. -/
def BookSt (w : World) (base bk : Nat) (vs : List Value) : Prop :=
  ∃ V : Value, w.heap[bk]? = some (.cells #[.slice none 0 0, .slice none 0 0, .slice none 0 0, .slice none 0 0, V, .slice none 0 0, .slice none 0 0, .slice none 0 0] 53 (0, 0)) ∧ w.ownsRow base 39 1 V vs.length vs ∧ base ≤ bk
theorem BookSt.lt {w : World} {base bk : Nat} {vs : List Value} (h : BookSt w base bk vs) : bk < w.heap.size := by
  obtain ⟨V, h1, _⟩ := h; exact (Array.getElem?_eq_some_iff.1 h1).1
theorem own_ne {w : World} {base g size n : Nat} {e t : TypeId} {v : Value} {xs : List Value} {cs : Array Value} {fr : Nat × Nat} (h : w.ownsRow base e size v n xs) (hg : w.heap[g]? = some (.cells cs t fr)) (hne : e ≠ t) : v.ownBlock ≠ some g := by
  rcases h.2 with ⟨rfl, _⟩ | ⟨g', cap, cur, rfl, _, hh, _⟩
  · simp [Value.ownBlock]
  · intro e2
    have : g' = g := by simpa [Value.ownBlock] using e2
    subst this
    rw [hh] at hg
    injection hg with hg
    injection hg with _ ht
    exact hne ht

theorem grown_set (w : World) (b o : Nat) (u : Value) : w.grownBy (w.setCell ⟨b, o, none⟩ u) (some b) :=
  ⟨rfl, rfl, rfl, by simp, fun k hk hne => Below.heap_setCell w ⟨b, o, none⟩ u k (fun e => hne (by rw [e]))⟩
theorem heap_set {w : World} {b : Nat} {cs : Array Value} {t : TypeId} (h : w.heap[b]? = some (.cells cs t (0, 0))) (o : Nat) (u : Value) : (w.setCell ⟨b, o, none⟩ u).heap[b]? = some (.cells (cs.setIfInBounds o u) t (0, 0)) := by
  simp [World.setCell, Array.getElem?_modify, h]
set_option maxHeartbeats 1000000 in
set_option maxRecDepth 100000 in
theorem files_any (bk base : Nat) (vs : List Value) (A : Option Addr) (n c : Nat) (w : World) (hvs : vs.length ≤ 100) (h : BookSt w base bk vs) (hb : base ≤ w.heap.size) :
    Calls Try.prog 24 #[.pointer (some ⟨bk, 0, none⟩), .slice A n c] w fun e w' => e = .returned (.tuple #[]) ∧ BookSt w' base bk (vs ++ [.slice A n c]) ∧ Below base w w' ∧ (∀ k, k < w.heap.size → (∀ cs fr, w.heap[k]? = some (.cells cs 58 fr) → w'.heap[k]? = w.heap[k]?)) := by
  obtain ⟨i0, hi, hz0, hz1, hz2⟩ := info_parts info39
  obtain ⟨V, hh, hown, hbk⟩ := h
  have hlt := (Array.getElem?_eq_some_iff.1 hh).1
  have c4 : w.cell? ⟨bk, 4, none⟩ = some V := by rw [Lib.cell_of_heap hh]; rfl
  have f4 : w.frozen? ⟨bk, 4, none⟩ = false := Lib.frozen_of_heap hh 4
  go_enter Try.func24, Try.ntmps24
  go_wp2_with (at_builtin; refine wpList_append_own _ rfl _ _ 48 rfl base 39 i0 (.slice none 0 0) 1 24 Try.underlying48 hi hz0 hz1 hz2 rfl (by decide) _ _ _ rfl (hown.alloc _) ⟨w.heap.size, 0, none⟩ 1 1 [.slice A n c] rfl rfl ?c1 ?c2 ?c3 ?c4 ?c5 ?_)
  case c1 =>
    intro j u hj
    match j, hj with
    | 0, hj => simp at hj; subst hj; simp [Addr.add]
  case c2 => intro u hu; simp at hu; subst hu; rfl
  case c3 => unfold maxLen; omega
  case c4 => omega
  case c5 => simp; omega
  intro V' w1 hown' hgrow _
  have hVb : V.ownBlock ≠ some bk := own_ne hown hh (by decide)
  have hh1 : w1.heap[bk]? = some (.cells #[.slice none 0 0, .slice none 0 0, .slice none 0 0, .slice none 0 0, V, .slice none 0 0, .slice none 0 0, .slice none 0 0] 53 (0, 0)) :=
    (hgrow.block bk (by simp; omega) (fun e => hVb e.symm)).trans ((Below.heap_alloc w _ bk hlt).trans hh)
  have d4 : w1.cell? ⟨bk, 4, none⟩ = some V := by rw [Lib.cell_of_heap hh1]; rfl
  have e4 : w1.frozen? ⟨bk, 4, none⟩ = false := Lib.frozen_of_heap hh1 4
  have hb1 : Below base w w1 := ((Below.refl base w).alloc hb _).grown hgrow (by simp; omega) (fun q hq => (hown.lt q hq).1)
  obtain ⟨g', cap', hV', _, _⟩ := own_len hown' (by omega)
  subst hV'
  go_wp2
  go_end0
  refine ⟨rfl, ⟨_, heap_set hh1 4 _, ?_, hbk⟩, hb1.setCell (p := ⟨bk, 4, none⟩) hbk _, fun k hk cs fr hck => ?_⟩
  · have hne := own_ne hown' hh1 (by decide)
    have := hown'.kept (grown_set w1 bk 4 (.slice (some ⟨g', 0, none⟩) (vs.length + 1) cap')) (.inr hne)
    simpa using this
  · have n1 : k ≠ bk := by
      rintro rfl
      rw [hh] at hck
      injection hck with hck
      injection hck with _ ht
      exact absurd ht (by decide)
    have n2 : some k ≠ V.ownBlock := fun e => own_ne hown hck (by decide) e.symm
    rw [Below.heap_setCell w1 ⟨bk, 4, none⟩ _ k n1, hgrow.block k (by simp; omega) n2, Below.heap_alloc w _ k hk]
end Go.Proofs.Ytmfbjmffodnaeaa.Wk
