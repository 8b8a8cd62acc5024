/- Facts on the world's data. No text of the program. -/
import Derived.Test.YtpkhghjmelgpeaaGreatM
set_option linter.unusedVariables false
namespace Go.Proofs.YtpkhghjmelgpeaaGreat.M

theorem get_modify {α : Type} (l : List α) (i j : Nat) (F : α → α) : (l.modify i F)[j]? = if i = j then (l[j]?).map F else l[j]? := by
  rw [List.getElem?_modify]; split <;> simp
theorem mem_modify {α : Type} {l : List α} {i : Nat} {F : α → α} {x : α} (h : x ∈ l.modify i F) : x ∈ l ∨ ∃ y, l[i]? = some y ∧ x = F y := by
  obtain ⟨j, hj⟩ := List.getElem?_of_mem h
  rw [get_modify] at hj
  split at hj
  · rename_i e; subst e
    cases hq : l[i]? with
    | none => rw [hq] at hj; cases hj
    | some y => rw [hq] at hj; simp at hj; exact .inr ⟨y, rfl, hj.symm⟩
  · exact .inl (List.mem_of_getElem? hj)
theorem find_map (fs : List Fs) (s : ByteArray) : find fs s = (fs.map (·.name)).findIdx? fun x => decide (x = s ∧ s ≠ noS) := by
  unfold find
  induction fs with
  | nil => rfl
  | cons a r ih => simp only [List.map_cons, List.findIdx?_cons]; rw [ih]
theorem named_map (fs : List Fs) : named fs = ((fs.map (·.name)).filter fun x => decide (x ≠ noS)).length := by
  unfold named
  induction fs with
  | nil => rfl
  | cons a r ih =>
    simp only [List.map_cons, List.filter_cons]
    split
    · simp only [List.length_cons]; rw [ih]
    · exact ih
theorem map_name_modify (fs : List Fs) (i : Nat) (F : Fs → Fs) (hF : ∀ f, (F f).name = f.name) : (fs.modify i F).map (·.name) = fs.map (·.name) := by
  apply List.ext_getElem?
  intro j
  rw [List.getElem?_map, List.getElem?_map, get_modify]
  split
  · cases fs[j]? <;> simp [hF]
  · rfl
theorem find_modify (fs : List Fs) (i : Nat) (F : Fs → Fs) (hF : ∀ f, (F f).name = f.name) (s : ByteArray) : find (fs.modify i F) s = find fs s := by rw [find_map, find_map, map_name_modify fs i F hF]
theorem named_modify (fs : List Fs) (i : Nat) (F : Fs → Fs) (hF : ∀ f, (F f).name = f.name) : named (fs.modify i F) = named fs := by rw [named_map, named_map, map_name_modify fs i F hF]
theorem app_len (b : List UInt8) (c : Wr) : (app b c).length ≤ max b.length (c.at_ + c.text.size) := by
  unfold app; split
  · simp
  · simp; omega

theorem wf_change {s : St} (h : Wf s) (i : Nat) (emp : Bool) (a : Nat) (t : ByteArray) (hb : a + t.size ≤ 4194304) : Wf (change s i emp a t) := by
  have hnm : ∀ f : Fs, ({ f with now := app f.now ⟨s.writes, emp, a, t⟩, uns := f.uns ++ [⟨s.writes, emp, a, t⟩] } : Fs).name = f.name := fun _ => rfl
  refine ⟨?_, ?_, ?_, ?_, ?_, ?_, ?_, ?_, ?_, h.clock⟩
  · intro j k f g hf hg he hne
    change (s.fs.modify i _)[j]? = some f at hf
    change (s.fs.modify i _)[k]? = some g at hg
    rw [get_modify] at hf hg
    have key : ∀ (q : Nat) (x : Fs), (if i = q then (s.fs[q]?).map (fun f => { f with now := app f.now ⟨s.writes, emp, a, t⟩, uns := f.uns ++ [⟨s.writes, emp, a, t⟩] }) else s.fs[q]?) = some x → ∃ y, s.fs[q]? = some y ∧ y.name = x.name := by
      intro q x hx
      split at hx
      · cases hq : s.fs[q]? with
        | none => rw [hq] at hx; cases hx
        | some y => rw [hq] at hx; simp at hx; exact ⟨y, rfl, by rw [← hx]⟩
      · exact ⟨x, hx, rfl⟩
    obtain ⟨f0, e1, e2⟩ := key j f hf
    obtain ⟨g0, e3, e4⟩ := key k g hg
    exact h.names j k f0 g0 e1 e3 (by rw [e2, e4]; exact he) (by rw [e2]; exact hne)
  · intro f hf hne
    rcases mem_modify hf with h1 | ⟨y, hy, rfl⟩
    · exact h.isName f h1 hne
    · exact h.isName y (List.mem_of_getElem? hy) hne
  · intro f hf
    rcases mem_modify hf with h1 | ⟨y, hy, rfl⟩
    · exact h.now f h1
    · simp only [List.foldl_append, List.foldl_cons, List.foldl_nil]
      rw [← h.now y (List.mem_of_getElem? hy)]
  · intro f hf
    rcases mem_modify hf with h1 | ⟨y, hy, rfl⟩
    · exact h.len f h1
    · have h2 := h.len y (List.mem_of_getElem? hy)
      have h3 := app_len y.now ⟨s.writes, emp, a, t⟩
      simp only at h3 ⊢
      exact ⟨by omega, h2.2⟩
  · intro f hf c hc
    rcases mem_modify hf with h1 | ⟨y, hy, rfl⟩
    · have := h.uns f h1 c hc; exact ⟨this.1, Nat.lt_succ_of_lt this.2⟩
    · rcases List.mem_append.1 hc with h2 | h2
      · have := h.uns y (List.mem_of_getElem? hy) c h2; exact ⟨this.1, Nat.lt_succ_of_lt this.2⟩
      · simp at h2; subst h2; exact ⟨hb, Nat.lt_succ_self _⟩
  · intro b j m q hm
    have := h.hs b j m q hm
    exact ⟨by show j < (s.fs.modify i _).length; simpa using this.1, this.2⟩
  · intro f hf
    rcases mem_modify hf with h1 | ⟨y, hy, rfl⟩
    · exact h.ords f h1
    · rw [List.pairwise_append]
      exact ⟨h.ords y (List.mem_of_getElem? hy), by simp, fun x hx z hz => by simp at hz; subst hz; exact (h.uns y (List.mem_of_getElem? hy) x hx).2⟩
  · intro j k f g hf hg hjk x hx z hz
    change (s.fs.modify i _)[j]? = some f at hf
    change (s.fs.modify i _)[k]? = some g at hg
    rw [get_modify] at hf hg
    split at hf
    · rename_i e; subst e
      rw [if_neg hjk] at hg
      cases hq : s.fs[i]? with
      | none => rw [hq] at hf; cases hf
      | some y =>
        rw [hq] at hf; simp at hf; subst hf
        rcases List.mem_append.1 hx with h2 | h2
        · exact h.apart i k y g hq hg hjk x h2 z hz
        · simp at h2; subst h2
          have := (h.uns g (List.mem_of_getElem? hg) z hz).2
          simp only; omega
    · split at hg
      · rename_i e1 e; subst e
        cases hq : s.fs[i]? with
        | none => rw [hq] at hg; cases hg
        | some y =>
          rw [hq] at hg; simp at hg; subst hg
          rcases List.mem_append.1 hz with h2 | h2
          · exact h.apart j i f y hf hq hjk x hx z h2
          · simp at h2; subst h2
            have := (h.uns f (List.mem_of_getElem? hf) x hx).2
            simp only; omega
      · exact h.apart j k f g hf hg hjk x hx z hz
  · show named (s.fs.modify i _) ≤ 64 ∧ _
    rw [named_modify s.fs i (fun f => { f with now := app f.now ⟨s.writes, emp, a, t⟩, uns := f.uns ++ [⟨s.writes, emp, a, t⟩] }) (fun _ => rfl)]; exact h.full

theorem wf_sync {s : St} (h : Wf s) (i : Nat) : Wf { s with fs := setF s.fs i fun f => { f with base := f.now, uns := [] } } := by
  refine ⟨?_, ?_, ?_, ?_, ?_, ?_, ?_, ?_, ?_, h.clock⟩
  · intro j k f g hf hg he hne
    change (s.fs.modify i _)[j]? = some f at hf
    change (s.fs.modify i _)[k]? = some g at hg
    rw [get_modify] at hf hg
    have key : ∀ (q : Nat) (x : Fs), (if i = q then (s.fs[q]?).map (fun f => { f with base := f.now, uns := [] }) else s.fs[q]?) = some x → ∃ y, s.fs[q]? = some y ∧ y.name = x.name := by
      intro q x hx
      split at hx
      · cases hq : s.fs[q]? with
        | none => rw [hq] at hx; cases hx
        | some y => rw [hq] at hx; simp at hx; exact ⟨y, rfl, by rw [← hx]⟩
      · exact ⟨x, hx, rfl⟩
    obtain ⟨f0, e1, e2⟩ := key j f hf
    obtain ⟨g0, e3, e4⟩ := key k g hg
    exact h.names j k f0 g0 e1 e3 (by rw [e2, e4]; exact he) (by rw [e2]; exact hne)
  · intro f hf hne
    rcases mem_modify hf with h1 | ⟨y, hy, rfl⟩
    · exact h.isName f h1 hne
    · exact h.isName y (List.mem_of_getElem? hy) hne
  · intro f hf
    rcases mem_modify hf with h1 | ⟨y, hy, rfl⟩
    · exact h.now f h1
    · rfl
  · intro f hf
    rcases mem_modify hf with h1 | ⟨y, hy, rfl⟩
    · exact h.len f h1
    · have h2 := h.len y (List.mem_of_getElem? hy)
      exact ⟨h2.1, h2.1⟩
  · intro f hf c hc
    rcases mem_modify hf with h1 | ⟨y, hy, rfl⟩
    · exact h.uns f h1 c hc
    · cases hc
  · intro b j m q hm
    have := h.hs b j m q hm
    exact ⟨by show j < (s.fs.modify i _).length; simpa using this.1, this.2⟩
  · intro f hf
    rcases mem_modify hf with h1 | ⟨y, hy, rfl⟩
    · exact h.ords f h1
    · exact List.Pairwise.nil
  · intro j k f g hf hg hjk x hx z hz
    change (s.fs.modify i _)[j]? = some f at hf
    change (s.fs.modify i _)[k]? = some g at hg
    rw [get_modify] at hf hg
    split at hf
    · cases hq : s.fs[j]? with
      | none => rw [hq] at hf; cases hf
      | some y => rw [hq] at hf; simp at hf; subst hf; cases hx
    · split at hg
      · cases hq : s.fs[k]? with
        | none => rw [hq] at hg; cases hg
        | some y => rw [hq] at hg; simp at hg; subst hg; cases hz
      · exact h.apart j k f g hf hg hjk x hx z hz
  · show named (s.fs.modify i _) ≤ 64 ∧ _
    rw [named_modify s.fs i (fun f => { f with base := f.now, uns := [] }) (fun _ => rfl)]; exact h.full

theorem uns_len {l : List Wr} {n : Nat} (h : l.Pairwise fun a b => a.ord < b.ord) (hb : ∀ c ∈ l, c.ord < n) : l.length ≤ n := by
  induction l generalizing n with
  | nil => exact Nat.zero_le _
  | cons a r ih =>
    rw [List.pairwise_cons] at h
    have key : ∀ (r : List Wr) (m n : Nat), r.Pairwise (fun a b => a.ord < b.ord) → (∀ c ∈ r, m ≤ c.ord ∧ c.ord < n) → m ≤ n → r.length + m ≤ n := by
      intro r
      induction r with
      | nil => intro m n _ _ hmn; simpa using hmn
      | cons x r ih2 =>
        intro m n hp hc hmn
        rw [List.pairwise_cons] at hp
        have hx := hc x (by simp)
        have := ih2 (x.ord + 1) n hp.2 (fun c hcm => ⟨hp.1 c hcm, (hc c (by simp [hcm])).2⟩) (by omega)
        simp only [List.length_cons]; omega
    have := key (a :: r) 0 n (List.pairwise_cons.2 h) (fun c hc => ⟨Nat.zero_le _, hb c hc⟩) (Nat.zero_le _)
    omega
end Go.Proofs.YtpkhghjmelgpeaaGreat.M
