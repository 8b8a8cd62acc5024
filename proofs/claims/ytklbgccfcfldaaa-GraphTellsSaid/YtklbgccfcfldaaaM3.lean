/- What the operations keep: a heap that is well laid stays so. No text of the program. -/
import Derived.Test.YtklbgccfcfldaaaM2
set_option linter.unusedVariables false
namespace Go.Proofs.Ytklbgccfcfldaaa.M
open Go

/-- Words that say where objects are and how great: kept. -/
theorem wf_mem {s : Hp} (h : Wf s) (m : Nat → Int) (hb : ∀ i, 0 ≤ m i ∧ m i ≤ 18446744073709551615)
    (hk : ∀ a, s.st a = true → m a = s.mem a ∧ m (a + 1) = s.mem (a + 1) ∧ (fmt s a = 6 → m (a + 2) = s.mem (a + 2))) : Wf { s with mem := m } := by
  have hsl : ∀ a, s.st a = true → sl { s with mem := m } a = sl s a := fun a ha => by unfold sl; simp only; rw [(hk a ha).2.1]
  have hf : ∀ a, s.st a = true → fmt { s with mem := m } a = fmt s a := fun a ha => by unfold fmt; simp only; rw [(hk a ha).1]
  refine ⟨h.n, hb, ?_, ?_, ?_, h.ar0, h.ar, h.ars, ?_, h.spec, h.cls, h.stack, h.queue, h.roots, h.noted, h.noted2, h.given⟩
  · intro a ha
    have := h.st a ha
    rw [hsl a ha]
    refine ⟨this.1, this.2.1, ?_⟩
    simp only
    rw [(hk a ha).1, (hk a ha).2.1]; exact this.2.2
  · intro a ha h6
    rw [hf a ha] at h6
    have := h.lit a ha h6
    have e2 := (hk a ha).2.2 h6
    have el : lits { s with mem := m } a = lits s a := by unfold lits; simp only; rw [e2]
    have es : spr { s with mem := m } a = spr s a := by unfold spr; simp only; rw [(hk a ha).1]
    rw [hsl a ha, el, es]
    simp only
    rw [e2]; exact this
  · intro a b ha hb' hab
    rw [hsl a ha]; exact h.apart a b ha hb' hab
  · intro a ha
    obtain ⟨i, h1, h2, h3, h4⟩ := h.lies a ha
    exact ⟨i, h1, h2, h3, by rw [hsl a ha]; exact h4⟩

/-- A slot that is no header's and no count of literals. -/
theorem slot_apart {s : Hp} (h : Wf s) {a b i : Nat} (ha : s.st a = true) (hb : s.st b = true) (hi : i < sl s a) : b ≠ a + 2 + i ∧ b + 1 ≠ a + 2 + i ∧ (b + 2 = a + 2 + i → 1 ≤ sl s b → b = a ∧ i = 0) := by
  rcases Nat.lt_trichotomy a b with h1 | h1 | h1
  · have := h.apart a b ha hb h1
    exact ⟨by omega, by omega, fun e _ => by omega⟩
  · subst h1
    exact ⟨by omega, by omega, fun e _ => ⟨rfl, by omega⟩⟩
  · have := h.apart b a hb ha h1
    exact ⟨by omega, by omega, fun e h' => by omega⟩
theorem wf_slot {s : Hp} (h : Wf s) {a i : Nat} (ha : s.st a = true) (hi : i < sl s a) (h6 : fmt s a = 6 → i ≠ 0) {v : Int} (hv : 0 ≤ v ∧ v ≤ 18446744073709551615) : Wf (setSlotS s a i v) := by
  refine wf_mem h _ ?_ ?_
  · intro k
    unfold upd; split
    · exact hv
    · exact h.mem k
  · intro b hb
    obtain ⟨h1, h2, h3⟩ := slot_apart h ha hb hi
    refine ⟨upd_other _ _ _ _ h1, upd_other _ _ _ _ h2, fun hf => ?_⟩
    by_cases e : b + 2 = a + 2 + i
    · have := (h.lit b hb hf).2.2.1
      obtain ⟨rfl, e0⟩ := h3 e (by omega)
      exact absurd e0 (h6 hf)
    · exact upd_other _ _ _ _ e
/-- Another header over the same slots. -/
theorem wf_head {s : Hp} (h : Wf s) {a : Nat} (ha : s.st a = true) {v : Int} (h0 : 0 ≤ v) (hu : unB v (s.mem (a + 1)) = true) (hf : fmt s a = 6 → uF v = 6 ∧ uS v = uS (s.mem a)) (hf' : uF v = 6 → fmt s a = 6) : Wf (setHdS s a v) := by
  have hv : v ≤ 70368744177663 := ((unB_iff _ _).1 hu).1
  have hn : ∀ b, s.st b = true → b ≠ a → b + 1 ≠ a ∧ (1 ≤ sl s b → b + 2 ≠ a) := fun b hb hne => by
    rcases Nat.lt_trichotomy a b with h1 | h1 | h1
    · exact ⟨by omega, fun _ => by omega⟩
    · exact absurd h1.symm hne
    · have := h.apart b a hb ha h1; exact ⟨by omega, fun _ => by omega⟩
  have hsl : ∀ b, s.st b = true → sl (setHdS s a v) b = sl s b := fun b hb => by
    unfold sl setHdS; simp only
    rw [upd_other _ _ _ _ (by by_cases e : b = a; · omega
                              · exact (hn b hb e).1)]
  have hfm : ∀ b, s.st b = true → b ≠ a → fmt (setHdS s a v) b = fmt s b := fun b hb hne => by unfold fmt setHdS; simp only; rw [upd_other _ _ _ _ hne]
  have h2 : ∀ b, s.st b = true → 1 ≤ sl s b → (setHdS s a v).mem (b + 2) = s.mem (b + 2) := fun b hb h1 => by
    unfold setHdS; simp only
    refine upd_other _ _ _ _ ?_
    by_cases e : b = a
    · omega
    · exact (hn b hb e).2 h1
  refine ⟨h.n, ?_, ?_, ?_, ?_, h.ar0, h.ar, h.ars, ?_, h.spec, h.cls, h.stack, h.queue, h.roots, h.noted, h.noted2, h.given⟩
  · intro k
    unfold setHdS upd; simp only; split
    · omega
    · exact h.mem k
  · intro b hb
    rw [hsl b hb]
    have := h.st b hb
    refine ⟨this.1, this.2.1, ?_⟩
    by_cases e : b = a
    · subst e
      unfold setHdS; simp only
      rw [upd_same, upd_other _ _ _ _ (by omega)]; exact hu
    · unfold setHdS; simp only
      rw [upd_other _ _ _ _ e, upd_other _ _ _ _ (hn b hb e).1]; exact this.2.2
  · intro b hb h6
    rw [hsl b hb]
    by_cases e : b = a
    · subst e
      have h6' : fmt s b = 6 := by
        unfold fmt setHdS at h6; simp only at h6; rw [upd_same] at h6; exact hf' h6
      have := h.lit b hb h6'
      have e2 := h2 b hb (by omega)
      have el : lits (setHdS s b v) b = lits s b := by unfold lits; rw [e2]
      have es : spr (setHdS s b v) b = spr s b := by unfold spr setHdS; simp only; rw [upd_same, (hf h6').2]
      rw [el, es, e2]; exact this
    · rw [hfm b hb e] at h6
      have := h.lit b hb h6
      have e2 := h2 b hb (by omega)
      have el : lits (setHdS s a v) b = lits s b := by unfold lits; rw [e2]
      have es : spr (setHdS s a v) b = spr s b := by unfold spr setHdS; simp only; rw [upd_other _ _ _ _ e]
      rw [el, es, e2]; exact this
  · intro b c hb hc hbc
    rw [hsl b hb]; exact h.apart b c hb hc hbc
  · intro b hb
    obtain ⟨i, h1, h2, h3, h4⟩ := h.lies b hb
    exact ⟨i, h1, h2, h3, by rw [hsl b hb]; exact h4⟩

/-- A new object of so many slots, in a range that no object has, and that ends no farther than a space's new top. -/
def bornS (s : Hp) (a : Nat) (hd : Int) (k : Nat) (m : Nat → Int) (i t : Nat) : Hp :=
  { s with
    mem := fun j => if j = a then hd else if j = a + 1 then (k : Int) else if a + 2 ≤ j ∧ j < a + 2 + k then m j else s.mem j
    st := upd s.st a true
    ar := upd s.ar i ⟨(s.ar i).b, t, (s.ar i).e⟩ }
theorem bornS_mem {s : Hp} {a k i t : Nat} {hd : Int} {m : Nat → Int} (j : Nat) (hj : j < a ∨ a + 2 + k ≤ j) : (bornS s a hd k m i t).mem j = s.mem j := by
  unfold bornS; simp only
  rw [if_neg (by omega), if_neg (by omega), if_neg (by omega)]
theorem wf_born {s : Hp} (h : Wf s) {a k i t : Nat} {hd : Int} {m : Nat → Int} (hi : 1 ≤ i) (hi5 : i ≤ 5) (h0 : 0 ≤ hd) (hu : unB hd k = true) (hm : ∀ j, 0 ≤ m j ∧ m j ≤ 18446744073709551615)
    (hfree : ∀ b, s.st b = true → b + 2 + sl s b ≤ a ∨ a + 2 + k ≤ b) (hab : (s.ar i).b ≤ a) (hat : a + 2 + k ≤ t) (htt : (s.ar i).t ≤ t) (hte : t ≤ (s.ar i).e)
    (hl : uF hd = 6 → isK 1 (m (a + 2)) = true ∧ 0 ≤ smV (m (a + 2)) ∧ (smV (m (a + 2))).toNat + 1 ≤ k ∧ ((uS hd).toNat = 0 ∨ (smV (m (a + 2))).toNat + 1 < k)) : Wf (bornS s a hd k m i t) := by
  have ha := h.ar i hi hi5
  have hn := h.n
  have hu' := (unB_iff _ _).1 hu
  have eold : ∀ b, s.st b = true → (bornS s a hd k m i t).mem b = s.mem b ∧ (bornS s a hd k m i t).mem (b + 1) = s.mem (b + 1) ∧ (1 ≤ sl s b → (bornS s a hd k m i t).mem (b + 2) = s.mem (b + 2)) := fun b hb => by
    have := hfree b hb
    exact ⟨bornS_mem b (by omega), bornS_mem _ (by omega), fun _ => bornS_mem _ (by omega)⟩
  have esl : ∀ b, s.st b = true → sl (bornS s a hd k m i t) b = sl s b := fun b hb => by unfold sl; rw [(eold b hb).2.1]
  have m0 : (bornS s a hd k m i t).mem a = hd := by unfold bornS; simp
  have m1 : (bornS s a hd k m i t).mem (a + 1) = (k : Int) := by unfold bornS; simp
  have m2 : 1 ≤ k → (bornS s a hd k m i t).mem (a + 2) = m (a + 2) := fun hk => by unfold bornS; simp only; rw [if_neg (by omega), if_neg (by omega), if_pos (by omega)]
  have esa : sl (bornS s a hd k m i t) a = k := by unfold sl; rw [m1]; omega
  have est : ∀ b, (bornS s a hd k m i t).st b = true → b = a ∨ (b ≠ a ∧ s.st b = true) := fun b hb => by
    by_cases e : b = a
    · exact .inl e
    · exact .inr ⟨e, by unfold bornS at hb; simp only at hb; rw [upd_other _ _ _ _ e] at hb; exact hb⟩
  refine ⟨h.n, ?_, ?_, ?_, ?_, ?_, ?_, ?_, ?_, h.spec, h.cls, h.stack, h.queue, h.roots, h.noted, h.noted2, h.given⟩
  · intro j
    unfold bornS; simp only
    split
    · omega
    · split
      · omega
      · split
        · exact hm j
        · exact h.mem j
  · intro b hb
    rcases est b hb with rfl | ⟨hne, hb'⟩
    · rw [esa, m0, m1]
      exact ⟨by omega, by show b + 2 + k ≤ s.n; omega, hu⟩
    · rw [esl b hb', (eold b hb').1, (eold b hb').2.1]
      exact h.st b hb'
  · intro b hb h6
    rcases est b hb with rfl | ⟨hne, hb'⟩
    · have h6' : uF hd = 6 := by unfold fmt at h6; rw [m0] at h6; exact h6
      have hq := hl h6'
      have e2 := m2 (by omega)
      have el : lits (bornS s b hd k m i t) b = (smV (m (b + 2))).toNat := by unfold lits; rw [e2]
      have es : spr (bornS s b hd k m i t) b = (uS hd).toNat := by unfold spr; rw [m0]
      rw [esa, el, es, e2]; exact hq
    · have h6' : fmt s b = 6 := by unfold fmt at h6 ⊢; rw [(eold b hb').1] at h6; exact h6
      have hq := h.lit b hb' h6'
      have e2 := (eold b hb').2.2 (by omega)
      have el : lits (bornS s a hd k m i t) b = lits s b := by unfold lits; rw [e2]
      have es : spr (bornS s a hd k m i t) b = spr s b := by unfold spr; rw [(eold b hb').1]
      rw [esl b hb', el, es, e2]; exact hq
  · intro b c hb hc hbc
    rcases est b hb with rfl | ⟨hne, hb'⟩
    · rcases est c hc with rfl | ⟨hnc, hc'⟩
      · omega
      · rw [esa]; have := hfree c hc'; omega
    · rw [esl b hb']
      rcases est c hc with rfl | ⟨hnc, hc'⟩
      · have := hfree b hb'; omega
      · exact h.apart b c hb' hc' hbc
  · show upd s.ar i _ 0 = _
    rw [upd_other _ _ _ _ (by omega)]; exact h.ar0
  · intro j h1 h2
    show _ ≤ (upd s.ar i _ j).b ∧ (upd s.ar i _ j).b ≤ (upd s.ar i _ j).t ∧ (upd s.ar i _ j).t ≤ (upd s.ar i _ j).e ∧ (upd s.ar i _ j).e ≤ s.n
    by_cases e : j = i
    · subst e; rw [upd_same]; simp only; omega
    · rw [upd_other _ _ _ _ e]; exact h.ar j h1 h2
  · intro j l h1 h2 h3 h4 hne
    show (upd s.ar i _ j).e ≤ (upd s.ar i _ l).b ∨ (upd s.ar i _ l).e ≤ (upd s.ar i _ j).b
    have := h.ars j l h1 h2 h3 h4 hne
    by_cases e : j = i
    · subst e; rw [upd_same, upd_other _ _ _ _ (fun x => hne x.symm)]; exact this
    · by_cases e2 : l = i
      · subst e2; rw [upd_same, upd_other _ _ _ _ e]; exact this
      · rw [upd_other _ _ _ _ e, upd_other _ _ _ _ e2]; exact this
  · intro b hb
    show ∃ j, 1 ≤ j ∧ j ≤ 5 ∧ (upd s.ar i _ j).b ≤ b ∧ b + 2 + _ ≤ (upd s.ar i _ j).t
    rcases est b hb with rfl | ⟨hne, hb'⟩
    · exact ⟨i, hi, hi5, by rw [upd_same]; exact hab, by rw [upd_same, esa]; exact hat⟩
    · obtain ⟨j, h1, h2, h3, h4⟩ := h.lies b hb'
      refine ⟨j, h1, h2, ?_, ?_⟩
      · by_cases e : j = i
        · subst e; rw [upd_same]; exact h3
        · rw [upd_other _ _ _ _ e]; exact h3
      · rw [esl b hb']
        by_cases e : j = i
        · subst e; rw [upd_same]; simp only; omega
        · rw [upd_other _ _ _ _ e]; exact h4
/-- Above the top of a space there is none. -/
theorem free_top {s : Hp} (h : Wf s) {i k : Nat} (hi : 1 ≤ i) (hi5 : i ≤ 5) (hk : (s.ar i).t + 2 + k ≤ (s.ar i).e) : ∀ b, s.st b = true → b + 2 + sl s b ≤ (s.ar i).t ∨ (s.ar i).t + 2 + k ≤ b := by
  intro b hb
  obtain ⟨j, h1, h2, h3, h4⟩ := h.lies b hb
  have hi' := h.ar i hi hi5
  have hj' := h.ar j h1 h2
  by_cases e : j = i
  · subst e; exact .inl h4
  · have := h.ars j i h1 h2 hi hi5 e
    omega
end Go.Proofs.Ytklbgccfcfldaaa.M
