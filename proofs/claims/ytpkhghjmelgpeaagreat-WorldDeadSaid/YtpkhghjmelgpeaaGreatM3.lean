/- Facts on files that are added. No text of the program. -/
import Derived.Test.YtpkhghjmelgpeaaGreatM2
set_option linter.unusedVariables false
namespace Go.Proofs.YtpkhghjmelgpeaaGreat.M

theorem find_snoc (fs : List Fs) (x : Fs) (s : ByteArray) : find (fs ++ [x]) s = match find fs s with | some i => some i | none => if x.name = s ∧ s ≠ noS then some fs.length else none := by
  unfold find
  rw [List.findIdx?_append]
  cases h : List.findIdx? (fun f => decide (f.name = s ∧ s ≠ noS)) fs with
  | some i => rfl
  | none =>
    simp only [Option.none_or, List.findIdx?_cons, List.findIdx?_nil]
    by_cases hx : x.name = s ∧ s ≠ noS
    · rw [if_pos hx]; simp [hx]
    · rw [if_neg hx]; simp only [decide_eq_true_eq]; rw [if_neg hx]; rfl
theorem named_snoc (fs : List Fs) (x : Fs) (h : x.name ≠ noS) : named (fs ++ [x]) = named fs + 1 := by unfold named; simp [List.filter_append, h]
theorem find_none {fs : List Fs} {s : ByteArray} (h : find fs s = none) (hs : s ≠ noS) : ∀ f ∈ fs, f.name ≠ s := by
  intro f hf e
  unfold find at h
  rw [List.findIdx?_eq_none_iff] at h
  have := h f hf
  simp [e, hs] at this
theorem find_some {fs : List Fs} {s : ByteArray} {i : Nat} (h : find fs s = some i) : ∃ f, fs[i]? = some f ∧ f.name = s ∧ s ≠ noS := by
  unfold find at h
  rw [List.findIdx?_eq_some_iff_getElem] at h
  obtain ⟨hi, hp, _⟩ := h
  simp at hp
  exact ⟨fs[i], List.getElem?_eq_getElem hi, hp.1, hp.2⟩
theorem name_ne {s : ByteArray} (h : isName s = true) : s ≠ noS := by
  intro e; subst e; simp [isName, noS, ByteArray.size] at h

theorem wf_new {s : St} (h : Wf s) (name : ByteArray) (l : List UInt8) (hn : isName name = true) (hf : find s.fs name = none) (hl : l.length ≤ 4194304) (hm : named s.fs < 64) : Wf { s with fs := s.fs ++ [⟨name, l, l, []⟩] } := by
  have hne := name_ne hn
  have hnone := find_none hf hne
  have hget : ∀ (j : Nat) (f : Fs), (s.fs ++ [⟨name, l, l, []⟩])[j]? = some f → (s.fs[j]? = some f) ∨ (j = s.fs.length ∧ f = ⟨name, l, l, []⟩) := by
    intro j f hj
    by_cases hlt : j < s.fs.length
    · rw [List.getElem?_append_left hlt] at hj; exact .inl hj
    · rw [List.getElem?_append_right (by omega)] at hj
      have h0 : j - s.fs.length = 0 := by
        have := (List.getElem?_eq_some_iff.1 hj).1; simp at this; omega
      rw [h0] at hj; simp at hj
      exact .inr ⟨by omega, hj.symm⟩
  have hmem : ∀ f, f ∈ s.fs ++ [(⟨name, l, l, []⟩ : Fs)] → f ∈ s.fs ∨ f = ⟨name, l, l, []⟩ := fun f hf => by simpa using hf
  refine ⟨?_, ?_, ?_, ?_, ?_, ?_, ?_, ?_, ?_, h.clock⟩
  · intro i k f g hi hk he hne'
    rcases hget i f hi with h1 | ⟨h1, rfl⟩
    · rcases hget k g hk with h2 | ⟨h2, rfl⟩
      · exact h.names i k f g h1 h2 he hne'
      · exact absurd he (hnone f (List.mem_of_getElem? h1))
    · rcases hget k g hk with h2 | ⟨h2, rfl⟩
      · exact absurd he.symm (hnone g (List.mem_of_getElem? h2))
      · omega
  · intro f hf' hne'
    rcases hmem f hf' with h1 | rfl
    · exact h.isName f h1 hne'
    · exact hn
  · intro f hf'
    rcases hmem f hf' with h1 | rfl
    · exact h.now f h1
    · rfl
  · intro f hf'
    rcases hmem f hf' with h1 | rfl
    · exact h.len f h1
    · exact ⟨hl, hl⟩
  · intro f hf' c hc
    rcases hmem f hf' with h1 | rfl
    · exact h.uns f h1 c hc
    · cases hc
  · intro b i m a hm'
    have := h.hs b i m a hm'
    exact ⟨by show i < (s.fs ++ _).length; simp; omega, this.2⟩
  · intro f hf'
    rcases hmem f hf' with h1 | rfl
    · exact h.ords f h1
    · exact List.Pairwise.nil
  · intro i k f g hi hk hik a ha b hb
    rcases hget i f hi with h1 | ⟨h1, rfl⟩
    · rcases hget k g hk with h2 | ⟨h2, rfl⟩
      · exact h.apart i k f g h1 h2 hik a ha b hb
      · cases hb
    · cases ha
  · show named (s.fs ++ _) ≤ 64 ∧ _
    rw [named_snoc _ _ hne]; exact ⟨by omega, h.full.2⟩
end Go.Proofs.YtpkhghjmelgpeaaGreat.M
