/- What is reached from a heap's roots, and its form, as plain data. No text of the program. -/
import Derived.Test.YtklbgccfcfldaaaM
set_option linter.unusedVariables false
namespace Go.Proofs.Ytklbgccfcfldaaa.M
open Go

/-- What has been visited, an oop more. -/
def vis (s : Hp) (q : List Int) (v : Int) : List Int := if isOb s v && !q.contains v then q ++ [v] else q
def visL (s : Hp) (q l : List Int) : List Int := l.foldl (vis s) q
def isLf (s : Hp) (lv : List Int) (o : Int) : Bool := lv.contains (uC (s.mem (atO o)))
/-- The oops that are followed. -/
def oopsF (s : Hp) (lv : List Int) (o : Int) : List Int := if isLf s lv o then [] else oopsL s (atO o)
def fol (s : Hp) (lv : List Int) : Nat → Nat → List Int → List Int
  | 0, _, q => q
  | f + 1, i, q => match q[i]? with
    | none => q
    | some o => fol s lv f (i + 1) (visL s q (oopsF s lv o))
def reachL (s : Hp) : List Int := fol s [] s.n 0 (visL s [] (roots s))

def nameL (q : List Int) (v : Int) : Int :=
  match q.findIdx? (· == v) with
  | some k => 8 * ((k : Int) + 1)
  | none => if tagN v = 0 ∨ tagN v = 1 ∨ tagN v = 2 then v else 4
/-- A slot's word of bytes, as far as there are bytes. -/
def byteW (s : Hp) (a j : Nat) : Int := s.mem (a + 2 + nOops s a + j) % ((2 ^ (8 * min 8 (nBytes s a - 8 * j)) : Nat) : Int)
def restL (s : Hp) (a : Nat) : List Int :=
  if fmt s a = 4 then (List.range (sl s a)).map fun i => s.mem (a + 2 + i) else (List.range ((nBytes s a + 7) / 8)).map (byteW s a)
def headL (s : Hp) (a : Nat) : List Int := [packA (uC (s.mem a)) (fmt s a) (uS (s.mem a)) (uH (s.mem a)) 0 false false, s.mem (a + 1)]
def objL (s : Hp) (q : List Int) (a : Nat) : List Int := headL s a ++ (oopsL s a).map (nameL q) ++ restL s a
def formL (s : Hp) : List Int :=
  [((reachL s).length : Int), (s.stack.length : Int), (s.queue.length : Int)] ++ (roots s).map (nameL (reachL s)) ++ (reachL s).flatMap fun o => objL s (reachL s) (atO o)

/-! ### what is visited -/
def Vd (s : Hp) (q : List Int) : Prop := q.Nodup ∧ ∀ o ∈ q, isOb s o = true
theorem vis_vd {s : Hp} {q : List Int} (h : Vd s q) (v : Int) : Vd s (vis s q v) := by
  unfold vis
  split
  · rename_i hc
    simp only [Bool.and_eq_true, Bool.not_eq_true'] at hc
    refine ⟨?_, ?_⟩
    · rw [List.nodup_append]
      refine ⟨h.1, by simp, ?_⟩
      intro a ha b hb e
      simp at hb; subst hb; subst e
      have := hc.2
      simp [ha] at this
    · intro o ho
      rcases List.mem_append.1 ho with h1 | h1
      · exact h.2 o h1
      · simp at h1; subst h1; exact hc.1
  · exact h
theorem visL_vd {s : Hp} : ∀ (l q : List Int), Vd s q → Vd s (visL s q l)
  | [], q, h => h
  | v :: r, q, h => visL_vd r (vis s q v) (vis_vd h v)
theorem visL_snoc (s : Hp) (q l : List Int) (v : Int) : visL s q (l ++ [v]) = vis s (visL s q l) v := by simp [visL, List.foldl_append]
theorem vis_prefix (s : Hp) (q : List Int) (v : Int) : q <+: vis s q v := by unfold vis; split <;> simp
theorem visL_prefix (s : Hp) : ∀ (l q : List Int), q <+: visL s q l
  | [], q => List.prefix_refl q
  | v :: r, q => (vis_prefix s q v).trans (visL_prefix s r _)
theorem isOb_at {s : Hp} (hw : Wf s) {o : Int} (h : isOb s o = true) : o = 8 * (atO o : Int) ∧ s.st (atO o) = true := by
  unfold isOb at h
  simp only [Bool.and_eq_true] at h
  refine ⟨?_, h.2⟩
  have h3 := h.1
  have h4 := (hw.st _ h.2).1
  rw [isK_iff, tag3] at h3
  unfold atO
  rw [obV_y o h.1] at h4 ⊢
  omega
theorem isOb_mk {s : Hp} (hw : Wf s) {a : Nat} (h : s.st a = true) : isOb s (8 * (a : Int)) = true ∧ atO (8 * (a : Int)) = a := by
  have hb := hw.st a h
  have hn := hw.n
  have hk : isK 3 (8 * (a : Int)) = true := by rw [isK_iff, tag3]; omega
  have ha : (obV (8 * (a : Int))).toNat = a := by rw [obV_y _ hk]; omega
  refine ⟨?_, ha⟩
  unfold isOb; rw [hk, ha, h]; rfl
theorem nodup_lt : ∀ (n : Nat) (l : List Nat), l.Nodup → (∀ x ∈ l, x < n) → l.length ≤ n
  | 0, l, _, h => by
    cases l with
    | nil => simp
    | cons a r => have := h a (by simp); omega
  | n + 1, l, hd, h => by
    have h1 := nodup_lt n (l.erase n) (hd.erase n) (fun x hx => by
      have h2 := (List.Nodup.mem_erase_iff hd).1 hx
      have := h x h2.2
      have := h2.1
      omega)
    have := List.length_erase_le (a := n) (l := l)
    have h3 : l.length ≤ (l.erase n).length + 1 := by
      rw [List.length_erase]; split <;> omega
    omega
/-- There are no more of them than words. -/
theorem vd_len {s : Hp} (hw : Wf s) {q : List Int} (h : Vd s q) : q.length ≤ s.n := by
  have h1 : (q.map atO).Nodup := by
    have hp := h.1
    unfold List.Nodup at *
    rw [List.pairwise_map]
    refine List.Pairwise.imp_of_mem ?_ hp
    intro a b ha hb hne e
    apply hne
    rw [(isOb_at hw (h.2 a ha)).1, (isOb_at hw (h.2 b hb)).1, e]
  have h2 : ∀ x ∈ q.map atO, x < s.n := by
    intro x hx
    obtain ⟨o, ho, rfl⟩ := List.mem_map.1 hx
    have := hw.st _ (isOb_at hw (h.2 o ho)).2
    omega
  simpa using nodup_lt _ _ h1 h2
end Go.Proofs.Ytklbgccfcfldaaa.M
