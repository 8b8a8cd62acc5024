/- A new object in a space that is filled from its beginning. No text of the program. -/
import Derived.Test.YtklbgccfcfldaaaM3
set_option linter.unusedVariables false
namespace Go.Proofs.Ytklbgccfcfldaaa.M
open Go

def putS (s : Hp) (a : Nat) (hd : Int) (k : Nat) (lit : Int) : Hp :=
  { s with
    mem := fun j => if j = a then hd else if j = a + 1 then (k : Int) else if uF hd = 6 ∧ j = a + 2 then smO lit else if a + 2 ≤ j ∧ j < a + 2 + k then 0 else s.mem j
    st := upd s.st a true }
/-- How many oops, and which is the first that may be changed, by the header. -/
def nOf (f : Int) (k lit : Nat) : Nat := if f = 1 ∨ f = 2 ∨ f = 3 then k else if f = 6 then 1 + lit else 0
def cOf (f : Int) : Nat := if f = 6 then 1 else 0
def madeS (s : Hp) (i : Nat) (hd : Int) (k lit : Nat) : Hp := putS (topS s i ((s.ar i).t + 2 + k)) (s.ar i).t hd k lit
def createS (s : Hp) (i : Nat) (hd : Int) (k lit : Nat) : Hp :=
  { madeS s i hd k lit with
    mem := fun j => if (s.ar i).t + 2 + cOf (uF hd) ≤ j ∧ j < (s.ar i).t + 2 + nOf (uF hd) k lit then s.spec.getD 0 0 else (madeS s i hd k lit).mem j }

theorem spaceAt_in {s : Hp} (h : Wf s) {i a : Nat} (hi : 1 ≤ i) (hi5 : i ≤ 5) (h1 : (s.ar i).b ≤ a) (h2 : a < (s.ar i).e) : spaceAt s a = i := by
  have hin : inA s i a = true := by unfold inA; simp; omega
  have hno : ∀ j, 1 ≤ j → j ≤ 5 → j ≠ i → inA s j a = false := fun j q1 q2 q3 => by
    have := h.ars j i q1 q2 hi hi5 q3
    have := h.ar j q1 q2
    have := h.ar i hi hi5
    unfold inA; simp; omega
  unfold spaceAt
  rcases (by omega : i = 1 ∨ i = 2 ∨ i = 3 ∨ i = 4 ∨ i = 5) with rfl | rfl | rfl | rfl | rfl
  · simp [hin]
  · simp [hin, hno 1 (by omega) (by omega) (by omega)]
  · simp [hin, hno 1 (by omega) (by omega) (by omega), hno 2 (by omega) (by omega) (by omega)]
  · simp [hin, hno 1 (by omega) (by omega) (by omega), hno 2 (by omega) (by omega) (by omega), hno 3 (by omega) (by omega) (by omega)]
  · simp [hin, hno 1 (by omega) (by omega) (by omega), hno 2 (by omega) (by omega) (by omega), hno 3 (by omega) (by omega) (by omega), hno 4 (by omega) (by omega) (by omega)]

section
variable {s : Hp} {i k lit : Nat} {hd : Int}
/-- What a header and its place must be. -/
structure Fit (s : Hp) (i : Nat) (hd : Int) (k lit : Nat) : Prop where
  wf : Wf s
  i1 : 1 ≤ i
  i5 : i ≤ 5
  hd0 : 0 ≤ hd
  un : unB hd k = true
  room : (s.ar i).t + 2 + k ≤ (s.ar i).e
  m : uF hd = 6 → lit + 1 ≤ k ∧ ((uS hd).toNat = 0 ∨ lit + 1 < k)
theorem Fit.lit_le (h : Fit s i hd k lit) (h6 : uF hd = 6) : lit ≤ 65536 := by
  have := ((unB_iff _ _).1 h.un).2.1
  have := (h.m h6).1
  omega
theorem Fit.smb (h : Fit s i hd k lit) (h6 : uF hd = 6) : smB (lit : Int) = true := by
  have := h.lit_le h6
  rw [smB_iff]; omega
theorem made_born (h : Fit s i hd k lit) : madeS s i hd k lit = bornS s (s.ar i).t hd k (fun j => if uF hd = 6 ∧ j = (s.ar i).t + 2 then smO lit else 0) i ((s.ar i).t + 2 + k) := by
  unfold madeS putS bornS topS
  simp only
  congr 1
  funext j
  by_cases e : j = (s.ar i).t
  · simp [e]
  · by_cases e1 : j = (s.ar i).t + 1
    · simp [e1]
    · rw [if_neg e, if_neg e1, if_neg e, if_neg e1]
      by_cases e2 : uF hd = 6 ∧ j = (s.ar i).t + 2
      · have := (h.m e2.1).1
        rw [if_pos e2, if_pos (by omega), if_pos e2]
      · rw [if_neg e2]
        by_cases e3 : (s.ar i).t + 2 ≤ j ∧ j < (s.ar i).t + 2 + k
        · rw [if_pos e3, if_pos e3, if_neg e2]
        · rw [if_neg e3, if_neg e3]
theorem made_wf (h : Fit s i hd k lit) : Wf (madeS s i hd k lit) := by
  rw [made_born h]
  have ha := h.wf.ar i h.i1 h.i5
  refine wf_born h.wf h.i1 h.i5 h.hd0 h.un ?_ (free_top h.wf h.i1 h.i5 h.room) ha.2.1 (Nat.le_refl _) (by omega) h.room ?_
  · intro j
    split
    · exact smO_bd _
    · omega
  · intro h6
    have hs := h.smb h6
    have e : smV (smO (lit : Int)) = lit := smV_smO _ hs
    simp only [h6, true_and, if_true]
    rw [e]
    refine ⟨?_, by omega, ?_, ?_⟩
    · rw [smO_is, hs]
    · have := (h.m h6).1; omega
    · have := (h.m h6).2; omega
theorem made_at (h : Fit s i hd k lit) : (madeS s i hd k lit).st (s.ar i).t = true ∧ (madeS s i hd k lit).mem (s.ar i).t = hd ∧ sl (madeS s i hd k lit) (s.ar i).t = k ∧ nOops (madeS s i hd k lit) (s.ar i).t = nOf (uF hd) k lit ∧ chg (madeS s i hd k lit) (s.ar i).t = cOf (uF hd) := by
  have h1 : (madeS s i hd k lit).mem (s.ar i).t = hd := by unfold madeS putS; simp
  have h2 : sl (madeS s i hd k lit) (s.ar i).t = k := by unfold sl madeS putS; simp
  have hf : fmt (madeS s i hd k lit) (s.ar i).t = uF hd := by unfold fmt; rw [h1]
  have hl : uF hd = 6 → M.lits (madeS s i hd k lit) (s.ar i).t = lit := fun h6 => by
    unfold M.lits
    have e : (madeS s i hd k lit).mem ((s.ar i).t + 2) = smO lit := by unfold madeS putS; simp [h6]
    rw [e, smV_smO _ (h.smb h6)]; omega
  refine ⟨by unfold madeS putS; simp [upd_same], h1, h2, ?_, by unfold chg cOf; rw [hf]⟩
  unfold nOops nOf
  rw [hf, h2]
  by_cases h6 : uF hd = 6
  · rw [hl h6]
  · simp only [h6, if_false]
theorem create_mem (h : Fit s i hd k lit) (j : Nat) (hj : j < (s.ar i).t + 2 + cOf (uF hd) ∨ (s.ar i).t + 2 + nOf (uF hd) k lit ≤ j) : (createS s i hd k lit).mem j = (madeS s i hd k lit).mem j := by
  unfold createS; simp only; rw [if_neg (by omega)]
theorem nOf_le (h : Fit s i hd k lit) : nOf (uF hd) k lit ≤ k := by
  unfold nOf
  split
  · omega
  · split
    · rename_i h6; have := (h.m h6).1; omega
    · omega
theorem create_wf (h : Fit s i hd k lit) : Wf (createS s i hd k lit) := by
  have hw := made_wf h
  have ha := made_at h
  have hle := nOf_le h
  unfold createS
  refine wf_mem hw _ ?_ ?_
  · intro j
    split
    · have := h.wf.roots (s.spec.getD 0 0) (by
        have := h.wf.spec
        have hm : s.spec.getD 0 0 ∈ s.spec := by
          rw [List.getD_eq_getElem?_getD, List.getElem?_eq_getElem (by omega)]
          exact List.getElem_mem _
        simp only [List.mem_append]; exact .inl (.inl (.inl hm)))
      exact this
    · exact hw.mem j
  · intro b hb
    by_cases e : b = (s.ar i).t
    · subst e
      rw [if_neg (by omega), if_neg (by omega)]
      refine ⟨rfl, rfl, fun h6 => ?_⟩
      have : uF hd = 6 := by unfold fmt at h6; rw [ha.2.1] at h6; exact h6
      have hc : cOf (uF hd) = 1 := by unfold cOf; rw [if_pos this]
      rw [if_neg (by omega)]
    · have hsl := ha.2.2.1
      have hr : b + 2 + sl (madeS s i hd k lit) b ≤ (s.ar i).t ∨ (s.ar i).t + 2 + k ≤ b := by
        rcases Nat.lt_trichotomy b (s.ar i).t with q | q | q
        · exact .inl (hw.apart _ _ hb ha.1 q)
        · exact absurd q e
        · have := hw.apart _ _ ha.1 hb q; rw [hsl] at this; exact .inr this
      rw [if_neg (by omega), if_neg (by omega)]
      refine ⟨rfl, rfl, fun h6 => ?_⟩
      have := (hw.lit b hb h6).2.2.1
      rw [if_neg (by omega)]
theorem create_young (h : Fit s i hd k lit) (hi : i = 1 ∨ i = 2 ∨ i = 3) : isOb (createS s i hd k lit) (8 * ((s.ar i).t : Int)) = true ∧ isYoung (createS s i hd k lit) (8 * ((s.ar i).t : Int)) = true := by
  have hw := create_wf h
  have ha := made_at h
  have hst : (createS s i hd k lit).st (s.ar i).t = true := ha.1
  obtain ⟨e1, e2⟩ := isOb_mk hw hst
  refine ⟨e1, ?_⟩
  have hb := h.wf.ar i h.i1 h.i5
  have hr := h.room
  have hsp : spaceAt (createS s i hd k lit) (s.ar i).t = i := by
    refine spaceAt_in hw h.i1 h.i5 ?_ ?_
    · show (upd s.ar i _ i).b ≤ _; rw [upd_same]; exact hb.2.1
    · show _ < (upd s.ar i _ i).e; rw [upd_same]; simp only; omega
  unfold isYoung spaceOf
  rw [e1, e2, if_pos rfl, hsp]
  simp; omega
end
end Go.Proofs.Ytklbgccfcfldaaa.M
