/- The name of a word; leaves; a new census. -/
import Derived.Test.YtklbgccfcfldaaaE2
set_option linter.unusedVariables false
namespace Go.Proofs.Ytklbgccfcfldaaa.Wk
open Go.ChangeShapes Go.WideShapes Go.ChangeAt Go.RowKit M

theorem contains_idx (l : List Int) (o : Int) : l.contains o = (l.findIdx? (· == o)).isSome := by
  rw [List.findIdx?_isSome, List.contains_eq_any_beq]
  congr 1; funext x; exact Bool.beq_comm
theorem name_y {l : List Int} {o : Int} (h : l.contains o = true) : nameL l o = 8 * nuV l o ∧ 0 ≤ nuV l o ∧ nuV l o ≤ l.length := by
  rw [contains_idx] at h
  unfold nameL nuV
  cases hf : l.findIdx? (· == o) with
  | none => rw [hf] at h; cases h
  | some i =>
    have := (List.findIdx?_eq_some_iff_findIdx_eq.1 hf).1
    exact ⟨rfl, by simp only; omega, by simp only; omega⟩
theorem name_n {l : List Int} {o : Int} (h : l.contains o = false) : nameL l o = if tagN o = 0 ∨ tagN o = 1 ∨ tagN o = 2 then o else 4 := by
  rw [contains_idx] at h
  unfold nameL
  cases hf : l.findIdx? (· == o) with
  | none => rfl
  | some i => rw [hf] at h; cases h

set_option maxHeartbeats 4000000 in
set_option maxRecDepth 100000 in
theorem name_any (w : World) (p m k : Nat) (D : DataW Unit) (l : List Int) (h : Nu w m k D l) (hl : l.length ≤ 1099511627776) (o : Int) (ho : 0 ≤ o ∧ o ≤ 18446744073709551615) :
    Calls Try.prog 33 #[numV p m, .int .u64 o] w fun e w' => e = .returned (.int .u64 (nameL l o)) ∧ Below w.heap.size w w' := by
  obtain ⟨X, hX⟩ : ∃ X, X = w.alloc (.cells #[.pointer (some ⟨p, 0, none⟩), .map (some m)] 94) := ⟨_, rfl⟩
  have hNX : Nu X m k D l := h.kept (by rw [hX]; exact Below.heap_alloc _ _ _ h.lt)
  have hlk := hNX.look o ho
  have hB : Below w.heap.size w X := by rw [hX]; exact (Below.refl _ _).alloc (Nat.le_refl _) _
  have hy := name_y (l := l) (o := o)
  have hn := name_n (l := l) (o := o)
  have HT := Lib.hid (tag_any o X ho.1 ho.2)
  have ht := tag_le o
  have HB := Lib.hid hB
  rw [hX] at hlk HT HB
  generalize hx : nameL l o = x at *
  generalize hc : l.contains o = c at *
  generalize hv : nuV l o = v at *
  generalize tagN o = z at *
  simp only [numV]
  clear h hNX hx hc hv hB
  cases c
  · replace hn := hn rfl
    clear hy
    rcases (by omega : z = 0 ∨ z = 1 ∨ z = 2 ∨ z = 3 ∨ z = 4) with rfl | rfl | rfl | rfl | rfl
    all_goals
      first
        | (have hn2 : x = o := by rw [hn, if_pos (by omega)]
           subst hn2)
        | (have hn2 : x = 4 := by rw [hn, if_neg (by omega)]
           subst hn2)
      clear hn ht hl ho
      go_enter Try.func33, Try.ntmps33
      go_wp2_with (go_at_call 52; refine HT.out.mono ?_; rintro e w' ⟨rfl, rfl⟩)
      go_ret
      exact ⟨rfl, HB.out⟩
  · obtain ⟨rfl, q1, q2⟩ := hy rfl
    have i1 : IntKind.u64.wrap (8 * v) = 8 * v := by rw [IntKind.wrap_u64]; omega
    clear ht hl ho q1 q2 HT
    go_enter Try.func33, Try.ntmps33
    go_wp2
    go_ret
    exact ⟨rfl, HB.out⟩
end Go.Proofs.Ytklbgccfcfldaaa.Wk
