/- Facts on files that lose their name or get another one. No text of the program. -/
import Derived.Test.YtpkhghjmelgpeaaGreatM3
set_option linter.unusedVariables false
namespace Go.Proofs.YtpkhghjmelgpeaaGreat.M

def nmF (x : ByteArray) (f : Fs) : Fs := { f with name := x }
def setN (fs : List Fs) (i : Nat) (x : ByteArray) : List Fs := setF fs i (nmF x)
def Uni (fs : List Fs) : Prop := ∀ (i k : Nat) (f g : Fs), fs[i]? = some f → fs[k]? = some g → f.name = g.name → f.name ≠ noS → i = k

theorem setN_get (fs : List Fs) (i j : Nat) (x : ByteArray) : (setN fs i x)[j]? = if i = j then (fs[j]?).map (nmF x) else fs[j]? := get_modify fs i j _
theorem setN_len (fs : List Fs) (i : Nat) (x : ByteArray) : (setN fs i x).length = fs.length := by unfold setN setF; simp
theorem find_ex {fs : List Fs} {t : ByteArray} {j : Nat} {f : Fs} (hf : fs[j]? = some f) (hn : f.name = t) (ht : t ≠ noS) : ∃ i, find fs t = some i := by
  cases h : find fs t with
  | some i => exact ⟨i, rfl⟩
  | none => exact absurd hn (find_none h ht f (List.mem_of_getElem? hf))
theorem find_iff {fs : List Fs} (hu : Uni fs) {t : ByteArray} {j : Nat} {f : Fs} (hf : fs[j]? = some f) (hn : f.name = t) (ht : t ≠ noS) : find fs t = some j := by
  obtain ⟨i, hi⟩ := find_ex hf hn ht
  obtain ⟨g, hg, hgn, _⟩ := find_some hi
  rw [hi, hu i j g f hg hf (hgn.trans hn.symm) (by rw [hgn]; exact ht)]
theorem find_noS (fs : List Fs) : find fs noS = none := by
  cases h : find fs noS with
  | none => rfl
  | some i => obtain ⟨f, _, _, h3⟩ := find_some h; exact absurd rfl h3

/-! ### a file that loses its name -/
theorem uni_un {fs : List Fs} (hu : Uni fs) (k : Nat) : Uni (setN fs k noS) := by
  intro i j f g hi hj he hne
  rw [setN_get] at hi hj
  split at hi
  · cases hx : fs[i]? with
    | none => rw [hx] at hi; cases hi
    | some x => rw [hx] at hi; simp at hi; subst hi; exact absurd rfl hne
  · split at hj
    · cases hx : fs[j]? with
      | none => rw [hx] at hj; cases hj
      | some x => rw [hx] at hj; simp at hj; subst hj; exact absurd he hne
    · exact hu i j f g hi hj he hne
theorem find_un {fs : List Fs} (hu : Uni fs) {x : ByteArray} {k : Nat} (hk : find fs x = some k) (t : ByteArray) : find (setN fs k noS) t = if t = x then none else find fs t := by
  obtain ⟨f, hf, hfn, hx⟩ := find_some hk
  by_cases ht : t = noS
  · subst ht; rw [if_neg (fun e => hx e.symm), find_noS, find_noS]
  · by_cases hx2 : t = x
    · rw [if_pos hx2]
      cases h : find (setN fs k noS) t with
      | none => rfl
      | some i =>
        obtain ⟨g, hg, hgn, _⟩ := find_some h
        rw [setN_get] at hg
        split at hg
        · cases hy : fs[i]? with
          | none => rw [hy] at hg; cases hg
          | some y => rw [hy] at hg; simp at hg; subst hg; exact absurd hgn.symm ht
        · rename_i hne
          exact absurd (hu k i f g hf hg (by rw [hfn, hgn, hx2]) (by rw [hfn]; exact hx)) hne
    · rw [if_neg hx2]
      cases h : find fs t with
      | some i =>
        obtain ⟨g, hg, hgn, _⟩ := find_some h
        refine find_iff (uni_un hu k) (f := g) ?_ hgn ht
        rw [setN_get, if_neg (fun e => by subst e; rw [hf] at hg; cases hg; exact hx2 (hgn.symm.trans hfn))]; exact hg
      | none =>
        cases h2 : find (setN fs k noS) t with
        | none => rfl
        | some i =>
          obtain ⟨g, hg, hgn, _⟩ := find_some h2
          rw [setN_get] at hg
          split at hg
          · cases hy : fs[i]? with
            | none => rw [hy] at hg; cases hg
            | some y => rw [hy] at hg; simp at hg; subst hg; exact absurd hgn.symm ht
          · exact absurd hgn (find_none h ht g (List.mem_of_getElem? hg))
theorem named_set : ∀ (fs : List Fs) (i : Nat) (f : Fs) (x : ByteArray), fs[i]? = some f → named (setN fs i x) + (if f.name ≠ noS then 1 else 0) = named fs + (if x ≠ noS then 1 else 0) := by
  intro fs
  induction fs with
  | nil => intro i f x h; cases h
  | cons a r ih =>
    intro i f x h
    cases i with
    | zero =>
      simp at h; subst h
      show named (nmF x a :: r) + _ = _
      unfold named
      simp only [List.filter_cons]
      have e1 : (nmF x a).name = x := rfl
      rw [e1]
      by_cases h1 : a.name = noS <;> by_cases h2 : x = noS <;> simp [h1, h2]
    | succ i =>
      have := ih i f x (by simpa using h)
      show named (a :: setN r i x) + _ = _
      unfold named at this ⊢
      simp only [List.filter_cons]
      split
      · simp only [List.length_cons]; omega
      · exact this
theorem mem_setN {fs : List Fs} {i : Nat} {x : ByteArray} {f : Fs} (h : f ∈ setN fs i x) : ∃ g ∈ fs, f.now = g.now ∧ f.base = g.base ∧ f.uns = g.uns ∧ (f.name = x ∨ f.name = g.name) := by
  rcases mem_modify h with h1 | ⟨y, h1, h2⟩
  · exact ⟨f, h1, rfl, rfl, rfl, .inr rfl⟩
  · exact ⟨y, List.mem_of_getElem? h1, by rw [h2]; rfl, by rw [h2]; rfl, by rw [h2]; rfl, .inl (by rw [h2]; rfl)⟩
theorem get_setN {fs : List Fs} {i j : Nat} {x : ByteArray} {f : Fs} (h : (setN fs i x)[j]? = some f) : ∃ g, fs[j]? = some g ∧ f.now = g.now ∧ f.base = g.base ∧ f.uns = g.uns := by
  rw [setN_get] at h
  split at h
  · cases hy : fs[j]? with
    | none => rw [hy] at h; cases h
    | some y => rw [hy] at h; simp at h; subst h; exact ⟨y, rfl, rfl, rfl, rfl⟩
  · exact ⟨f, h, rfl, rfl, rfl⟩
theorem wf_setN {s : St} (h : Wf s) (i : Nat) (x : ByteArray) (hu : Uni (setN s.fs i x)) (hx : x = noS ∨ isName x = true) (hn : named (setN s.fs i x) ≤ 64) : Wf { s with fs := setN s.fs i x } := by
  refine ⟨hu, ?_, ?_, ?_, ?_, ?_, ?_, ?_, ⟨hn, h.full.2⟩, h.clock⟩
  · intro f hf hne
    obtain ⟨g, hg, _, _, _, h4⟩ := mem_setN hf
    rcases h4 with h4 | h4
    · rcases hx with hx | hx
      · exact absurd (h4.trans hx) hne
      · rw [h4]; exact hx
    · rw [h4]; exact h.isName g hg (by rw [← h4]; exact hne)
  · intro f hf
    obtain ⟨g, hg, h1, h2, h3, _⟩ := mem_setN hf
    rw [h1, h2, h3]; exact h.now g hg
  · intro f hf
    obtain ⟨g, hg, h1, h2, h3, _⟩ := mem_setN hf
    rw [h1, h2]; exact h.len g hg
  · intro f hf c hc
    obtain ⟨g, hg, h1, h2, h3, _⟩ := mem_setN hf
    rw [h3] at hc; exact h.uns g hg c hc
  · intro b j m a hm
    have := h.hs b j m a hm
    exact ⟨by show j < (setN s.fs i x).length; rw [setN_len]; exact this.1, this.2⟩
  · intro f hf
    obtain ⟨g, hg, h1, h2, h3, _⟩ := mem_setN hf
    rw [h3]; exact h.ords g hg
  · intro j k f g hj hk hne a ha b hb
    obtain ⟨f', hf', _, _, e1⟩ := get_setN hj
    obtain ⟨g', hg', _, _, e2⟩ := get_setN hk
    rw [e1] at ha; rw [e2] at hb
    exact h.apart j k f' g' hf' hg' hne a ha b hb
theorem named_un {fs : List Fs} {x : ByteArray} {k : Nat} (hk : find fs x = some k) : named (setN fs k noS) + 1 = named fs := by
  obtain ⟨f, hf, hfn, hx⟩ := find_some hk
  have := named_set fs k f noS hf
  rw [if_pos (by rw [hfn]; exact hx), if_neg (by simp)] at this
  exact this
theorem wf_un {s : St} (h : Wf s) {x : ByteArray} {k : Nat} (hk : find s.fs x = some k) : Wf { s with fs := setN s.fs k noS } :=
  wf_setN h k noS (uni_un h.names k) (.inl rfl) (by have := named_un hk; have := h.full.1; omega)

/-! ### a file that gets another name, which none has -/
theorem uni_re {fs : List Fs} (hu : Uni fs) (i : Nat) {b : ByteArray} (hb : find fs b = none) (hbn : b ≠ noS) : Uni (setN fs i b) := by
  have hno := find_none hb hbn
  intro j k f g hj hk he hne
  rw [setN_get] at hj hk
  split at hj
  · rename_i e1
    split at hk
    · rename_i e2; omega
    · cases hx : fs[j]? with
      | none => rw [hx] at hj; cases hj
      | some y => rw [hx] at hj; simp at hj; subst hj; exact absurd he.symm (hno g (List.mem_of_getElem? hk))
  · split at hk
    · cases hx : fs[k]? with
      | none => rw [hx] at hk; cases hk
      | some y => rw [hx] at hk; simp at hk; subst hk; exact absurd he (hno f (List.mem_of_getElem? hj))
    · exact hu j k f g hj hk he hne
theorem find_re {fs : List Fs} (hu : Uni fs) {a b : ByteArray} {i : Nat} (ha : find fs a = some i) (hb : find fs b = none) (hbn : b ≠ noS) (t : ByteArray) : find (setN fs i b) t = if t = b then some i else if t = a then none else find fs t := by
  have hno := find_none hb hbn
  have hu2 := uni_re hu i hb hbn
  obtain ⟨f, hf, hfn, hx⟩ := find_some ha
  have hfi : (setN fs i b)[i]? = some (nmF b f) := by rw [setN_get, if_pos rfl, hf]; rfl
  by_cases ht : t = noS
  · subst ht; rw [if_neg (fun e => hbn e.symm), if_neg (fun e => hx e.symm), find_noS, find_noS]
  · by_cases htb : t = b
    · rw [if_pos htb]
      exact find_iff hu2 hfi (by rw [htb]; rfl) ht
    · rw [if_neg htb]
      have hother : ∀ j g, (setN fs i b)[j]? = some g → g.name = t → fs[j]? = some g ∧ j ≠ i := by
        intro j g hg hgn
        rw [setN_get] at hg
        split at hg
        · cases hy : fs[j]? with
          | none => rw [hy] at hg; cases hg
          | some y => rw [hy] at hg; simp at hg; subst hg; exact absurd hgn.symm htb
        · rename_i hne; exact ⟨hg, fun e => hne e.symm⟩
      by_cases hta : t = a
      · rw [if_pos hta]
        cases h : find (setN fs i b) t with
        | none => rfl
        | some j =>
          obtain ⟨g, hg, hgn, _⟩ := find_some h
          obtain ⟨h1, h2⟩ := hother j g hg hgn
          exact absurd (hu j i g f h1 hf (by rw [hgn, hfn, hta]) (by rw [hgn]; exact ht)) h2
      · rw [if_neg hta]
        cases h : find fs t with
        | some j =>
          obtain ⟨g, hg, hgn, _⟩ := find_some h
          refine find_iff hu2 (f := g) ?_ hgn ht
          rw [setN_get, if_neg (fun e => by subst e; rw [hf] at hg; cases hg; exact hta (hgn.symm.trans hfn))]; exact hg
        | none =>
          cases h2 : find (setN fs i b) t with
          | none => rfl
          | some j =>
            obtain ⟨g, hg, hgn, _⟩ := find_some h2
            exact absurd hgn (find_none h ht g (List.mem_of_getElem? (hother j g hg hgn).1))
theorem named_re {fs : List Fs} {a b : ByteArray} {i : Nat} (ha : find fs a = some i) (hbn : b ≠ noS) : named (setN fs i b) = named fs := by
  obtain ⟨f, hf, hfn, hx⟩ := find_some ha
  have := named_set fs i f b hf
  rw [if_pos (by rw [hfn]; exact hx), if_pos hbn] at this
  omega

/-! ### Rename -/
def rnm (fs : List Fs) (b : ByteArray) (i : Nat) : List Fs := setN (match find fs b with | some k => setN fs k noS | none => fs) i b
theorem actRename_eq {a b : ByteArray} {s : St} {c : Ch} {d : Dd} {i : Nat} (h1 : isName a = true) (h2 : isName b = true) (h : find s.fs a = some i) (hne : a ≠ b) : actRename a b s c d = ({ s with fs := rnm s.fs b i }, { d with err := 0 }) := by
  unfold actRename rnm
  rw [if_neg (by simp [h1, h2]), h]
  simp only
  rw [if_neg hne]
  cases find s.fs b <;> rfl
theorem rnm_all {s : St} (h : Wf s) {a b : ByteArray} {i : Nat} (ha : find s.fs a = some i) (hb : isName b = true) (hne : a ≠ b) :
    Wf { s with fs := rnm s.fs b i } ∧ (∀ t, find (rnm s.fs b i) t = if t = b then some i else if t = a then none else find s.fs t) ∧ named (rnm s.fs b i) + (if (find s.fs b).isSome then 1 else 0) = named s.fs ∧
      ∀ (j : Nat) (f : Fs), (rnm s.fs b i)[j]? = some f → ∃ g : Fs, s.fs[j]? = some g ∧ f.now = g.now ∧ f.base = g.base ∧ f.uns = g.uns := by
  have hbn := name_ne hb
  unfold rnm
  cases hf : find s.fs b with
  | none =>
    simp only
    refine ⟨wf_setN h i b (uni_re h.names i hf hbn) (.inr hb) (by rw [named_re ha hbn]; exact h.full.1), find_re h.names ha hf hbn, by rw [named_re ha hbn]; simp, fun j f hj => get_setN hj⟩
  | some k =>
    simp only
    have hw := wf_un h hf
    have hfa : find (setN s.fs k noS) a = some i := by rw [find_un h.names hf, if_neg hne]; exact ha
    have hfb : find (setN s.fs k noS) b = none := by rw [find_un h.names hf, if_pos rfl]
    have hnm := named_un hf
    refine ⟨wf_setN hw i b (uni_re hw.names i hfb hbn) (.inr hb) (by show named (setN (setN s.fs k noS) i b) ≤ 64; rw [named_re hfa hbn]; exact hw.full.1), fun t => ?_, by rw [named_re hfa hbn]; simpa using hnm, fun j f hj => ?_⟩
    · rw [find_re hw.names hfa hfb hbn t]
      by_cases e1 : t = b
      · rw [if_pos e1, if_pos e1]
      · rw [if_neg e1, if_neg e1]
        by_cases e2 : t = a
        · rw [if_pos e2, if_pos e2]
        · rw [if_neg e2, if_neg e2]
          show find (setN s.fs k noS) t = _
          rw [find_un h.names hf, if_neg e1]
    · obtain ⟨g, hg, g1, g2, g3⟩ := get_setN hj
      obtain ⟨g', hg', k1, k2, k3⟩ := get_setN hg
      exact ⟨g', hg', g1.trans k1, g2.trans k2, g3.trans k3⟩
theorem told_rename (a b : ByteArray) (s : St) (c : Ch) (d : Dd) : (actRename a b s c d).1.told = s.told := by
  unfold actRename
  split
  · rfl
  · cases find s.fs a with
    | none => rfl
    | some i => simp only; split <;> rfl

/-! ### Delete -/
def actDelete (a : ByteArray) (s : St) (c : Ch) (d : Dd) : St × Dd :=
  if isName a = false then (s, { d with err := 35 })
  else match find s.fs a with
  | none => (s, { d with err := 32 })
  | some i => ({ s with fs := setN s.fs i noS }, { d with err := 0 })
theorem told_delete (a : ByteArray) (s : St) (c : Ch) (d : Dd) : (actDelete a s c d).1.told = s.told := by
  unfold actDelete
  split
  · rfl
  · cases find s.fs a <;> rfl
end Go.Proofs.YtpkhghjmelgpeaaGreat.M
