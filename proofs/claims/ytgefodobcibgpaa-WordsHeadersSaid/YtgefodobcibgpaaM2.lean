/- More plain facts: what is made an oop is read back; the kinds of a word. No condition beyond what each theorem states. -/
import Derived.Test.YtgefodobcibgpaaM
namespace Go.Proofs.Ytgefodobcibgpaa.M
open Go
theorem smO_no (n : Int) (h : smB n = false) : smO n = 0 := by unfold smO; rw [h]; rfl
theorem chO_no (n : Int) (h : chB n = false) : chO n = 0 := by unfold chO; rw [h]; rfl
theorem obO_no (n : Int) (h : obB n = false) : obO n = 0 := by unfold obO; rw [h]; rfl
theorem chB_iff (n : Int) : chB n = true ↔ (0 ≤ n ∧ n ≤ 2097151) := by unfold chB; simp
theorem obB_iff (n : Int) : obB n = true ↔ (1 ≤ n ∧ n ≤ 268435455) := by unfold obB; simp
theorem isK_iff (k o : Int) : isK k o = true ↔ tagN o = k := by unfold isK; simp
theorem tag2 (o : Int) : tagN o = 2 ↔ (o % 8 = 2 ∧ o / 8 ≤ 2097151) := by
  unfold tagN; repeat' split
  all_goals omega
theorem tag3 (o : Int) : tagN o = 3 ↔ (o ≠ 0 ∧ o % 8 = 0 ∧ o / 8 ≤ 268435455) := by
  unfold tagN; repeat' split
  all_goals omega
theorem tag0 (o : Int) : tagN o = 0 ↔ o = 0 := by
  unfold tagN; repeat' split
  all_goals omega
theorem tag_le (o : Int) : 0 ≤ tagN o ∧ tagN o ≤ 4 := by
  unfold tagN; repeat' split
  all_goals omega
theorem smO_is (n : Int) : isK 1 (smO n) = smB n := by
  cases h : smB n
  · rw [smO_no n h]; rfl
  · rw [isK_iff, tag1]; unfold smO; rw [if_pos h]; unfold oopS; omega
theorem smV_smO (n : Int) (h : smB n = true) : smV (smO n) = n := by
  have h' := (smB_iff n).1 h
  unfold smO; rw [if_pos h]; unfold smV oopS; split <;> (try split) <;> omega
theorem chO_is (n : Int) : isK 2 (chO n) = chB n := by
  cases h : chB n
  · rw [chO_no n h]; rfl
  · have h' := (chB_iff n).1 h
    rw [isK_iff, tag2]; unfold chO; rw [if_pos h]; omega
theorem chV_chO (n : Int) (h : chB n = true) : chV (chO n) = n := by
  have h' := (chB_iff n).1 h
  have := chO_is n
  rw [h] at this
  rw [chV_y _ this]; unfold chO; rw [if_pos h]; omega
theorem obO_is (n : Int) : isK 3 (obO n) = obB n := by
  cases h : obB n
  · rw [obO_no n h]; rfl
  · have h' := (obB_iff n).1 h
    rw [isK_iff, tag3]; unfold obO; rw [if_pos h]; omega
theorem obV_obO (n : Int) (h : obB n = true) : obV (obO n) = n := by
  have h' := (obB_iff n).1 h
  have := obO_is n
  rw [h] at this
  rw [obV_y _ this]; unfold obO; rw [if_pos h]; omega
theorem smO_smV (o : Int) (h : 0 ≤ o) (h2 : o ≤ 18446744073709551615) (k : isK 1 o = true) : smB (smV o) = true ∧ smO (smV o) = o := by
  rw [isK_iff, tag1] at k
  have e : smB (smV o) = true := by rw [smB_iff]; unfold smV; rw [if_pos k]; split <;> omega
  refine ⟨e, ?_⟩
  unfold smO; rw [if_pos e]; unfold oopS smV; rw [if_pos k]; split <;> omega
theorem chO_chV (o : Int) (h : 0 ≤ o) (k : isK 2 o = true) : chB (chV o) = true ∧ chO (chV o) = o := by
  have e0 := chV_y o k
  rw [isK_iff, tag2] at k
  have e : chB (chV o) = true := by rw [chB_iff, e0]; omega
  refine ⟨e, ?_⟩
  unfold chO; rw [if_pos e, e0]; omega
theorem obO_obV (o : Int) (h : 0 ≤ o) (k : isK 3 o = true) : obB (obV o) = true ∧ obO (obV o) = o := by
  have e0 := obV_y o k
  rw [isK_iff, tag3] at k
  have e : obB (obV o) = true := by rw [obB_iff, e0]; omega
  refine ⟨e, ?_⟩
  unfold obO; rw [if_pos e, e0]; omega
/-- Of a word: its kind, and what each question answers. -/
theorem kinds (o : Int) : (tagN o = 1 ∧ isK 1 o = true ∧ isK 2 o = false ∧ isK 3 o = false ∧ (o == 0) = false) ∨ (tagN o = 2 ∧ isK 1 o = false ∧ isK 2 o = true ∧ isK 3 o = false ∧ (o == 0) = false) ∨
    (tagN o = 3 ∧ isK 1 o = false ∧ isK 2 o = false ∧ isK 3 o = true ∧ (o == 0) = false) ∨ (tagN o = 0 ∧ isK 1 o = false ∧ isK 2 o = false ∧ isK 3 o = false ∧ (o == 0) = true) ∨
    (tagN o = 4 ∧ isK 1 o = false ∧ isK 2 o = false ∧ isK 3 o = false ∧ (o == 0) = false) := by
  have h0 := tag0 o
  have h1 := tag_le o
  have hz : (o == 0) = decide (tagN o = 0) := by rw [Bool.eq_iff_iff]; simp [h0]
  rw [hz]; unfold isK
  rcases (by omega : tagN o = 0 ∨ tagN o = 1 ∨ tagN o = 2 ∨ tagN o = 3 ∨ tagN o = 4) with e | e | e | e | e <;> rw [e] <;> simp
theorem kinds2 (o : Int) (h : 0 ≤ o) (h2 : o ≤ 18446744073709551615) : (tagN o = 1 ∧ isK 1 o = true ∧ isK 2 o = false ∧ isK 3 o = false ∧ (o == 0) = false ∧ smB (smV o) = true ∧ smO (smV o) = o) ∨
    (tagN o = 2 ∧ isK 1 o = false ∧ isK 2 o = true ∧ isK 3 o = false ∧ (o == 0) = false ∧ chB (chV o) = true ∧ chO (chV o) = o) ∨
    (tagN o = 3 ∧ isK 1 o = false ∧ isK 2 o = false ∧ isK 3 o = true ∧ (o == 0) = false ∧ obB (obV o) = true ∧ obO (obV o) = o) ∨ (tagN o = 0 ∧ isK 1 o = false ∧ isK 2 o = false ∧ isK 3 o = false ∧ (o == 0) = true ∧ True ∧ True) ∨
    (tagN o = 4 ∧ isK 1 o = false ∧ isK 2 o = false ∧ isK 3 o = false ∧ (o == 0) = false ∧ True ∧ True) := by
  rcases kinds o with ⟨t, k1, k2, k3, k0⟩ | ⟨t, k1, k2, k3, k0⟩ | ⟨t, k1, k2, k3, k0⟩ | ⟨t, k1, k2, k3, k0⟩ | ⟨t, k1, k2, k3, k0⟩
  · exact .inl ⟨t, k1, k2, k3, k0, smO_smV o h h2 k1⟩
  · exact .inr (.inl ⟨t, k1, k2, k3, k0, chO_chV o h k2⟩)
  · exact .inr (.inr (.inl ⟨t, k1, k2, k3, k0, obO_obV o h k3⟩))
  · exact .inr (.inr (.inr (.inl ⟨t, k1, k2, k3, k0, trivial, trivial⟩)))
  · exact .inr (.inr (.inr (.inr ⟨t, k1, k2, k3, k0, trivial, trivial⟩)))
theorem unB_iff (x y : Int) : unB x y = true ↔ (x ≤ 70368744177663 ∧ y ≤ 65536 ∧ hdB (uC x) (uF x) (uS x) (uH x) (uA x) y = true) := by
  unfold unB; simp [and_assoc]
end Go.Proofs.Ytgefodobcibgpaa.M
