/- Left: the data, and the clock. -/
import Derived.Test.YtpkhghjmelgpeaaGreatW30
set_option linter.unusedVariables false
namespace Go.Proofs.YtpkhghjmelgpeaaGreat.Wk
open Go.ChangeShapes Go.WideShapes Go.ChangeAt Go.RowKit M Go.Maps Go.Proofs

def leftF (s : St) (which : Nat) (i : Nat) : Fs :=
  match s.fs[i]? with
  | some f => ⟨f.name, surv which (ordersOf s.fs) f.base (f.uns.take 64), surv which (ordersOf s.fs) f.base (f.uns.take 64), []⟩
  | none => ⟨noS, [], [], []⟩
def leftSt (s : St) (which : Nat) (cs : List Ch) (is : List Nat) : St := ⟨cs, s.clock, false, [], is.map (leftF s which), [], 0⟩
theorem leftF_at {s : St} {which i : Nat} {f : Fs} (h : s.fs[i]? = some f) : leftF s which i = ⟨f.name, surv which (ordersOf s.fs) f.base (f.uns.take 64), surv which (ordersOf s.fs) f.base (f.uns.take 64), []⟩ := by unfold leftF; rw [h]
theorem left_snoc {s : St} {which i : Nat} {cs : List Ch} {is : List Nat} {f : Fs} (h : s.fs[i]? = some f) :
    ({ leftSt s which cs is with fs := (leftSt s which cs is).fs ++ [⟨f.name, surv which (ordersOf s.fs) f.base (f.uns.take 64), surv which (ordersOf s.fs) f.base (f.uns.take 64), []⟩] } : St) = leftSt s which cs (is ++ [i]) := by
  unfold leftSt; simp [leftF_at h]
theorem left_find {s : St} {which i : Nat} {left : Lit → Bool} {is : List Nat} (h : Went s.fs left is) {t : ByteArray} (ht : t.size ≤ maxLen) (hl : left (skey t) = true) (hf : find s.fs t = some i) : find (is.map (leftF s which)) t = none := by
  cases hq : find (is.map (leftF s which)) t with
  | none => rfl
  | some j =>
    obtain ⟨f', h1, h2, _⟩ := find_some hq
    obtain ⟨k, hk, rfl⟩ := List.mem_map.1 (List.mem_of_getElem? h1)
    obtain ⟨t', ht', hf'⟩ := h.has k hk
    obtain ⟨f'', h3, h4, _⟩ := find_some hf'
    rw [leftF_at h3] at h2
    simp only at h2
    obtain rfl : t' = t := h4.symm.trans h2
    have := (h.mem t' k ht' hf').1 hk
    rw [hl] at this; cases this
theorem rep_clock {own : Own} {w : World} {p : Nat} {s : St} {g : Gh} (h : Rep own w p s g) (c : Int) (hc : 0 ≤ c ∧ c ≤ 1000000000000000000) : Rep own (w.setCell ⟨p, 1, none⟩ (.int .i64 c)) p { s with clock := c } g := by
  have hoth : ∀ k, k ≠ p → (w.setCell ⟨p, 1, none⟩ (.int .i64 c)).heap[k]? = w.heap[k]? := fun k hk => blk_set_other _ _ _ _ _ hk
  refine h.top (cv := g.cv) (tv := g.tv) (s' := { s with clock := c }) (fun k hk => by rw [size_set]; exact h.owns k hk) (fun _ _ e => e) (fun k l e hl => hoth k (by intro e2; subst e2; rw [h.wown] at e; cases e; simp at hl)) rfl rfl
    ⟨h.wf.names, h.wf.isName, h.wf.now, h.wf.len, h.wf.uns, h.wf.hs, h.wf.ords, h.wf.apart, h.wf.full, hc⟩ (blk_set h.wcell 1 _) ?_ ?_ h.town
  · exact h.chs.kept (fun _ _ e => e) fun k l e hl => by subst hl; exact hoth k (by intro e2; subst e2; rw [h.wown] at e; cases e)
  · exact h.trow.kept fun k hk => hoth k (by intro e2; subst e2; have := h.town k hk; rw [h.wown] at this; cases this)

def LeftE (w : World) (s : St) (which : Nat) (cs : List Ch) (e : Ending) (w' : World) : Prop :=
  ∃ p own' g is, e = .returned (.pointer (some ⟨p, 0, none⟩)) ∧ is.Perm (namedIx s.fs) ∧ Made w (leftSt s which cs is) p own' g w'
def LeftRel (w : World) (s : St) (which : Nat) (cs : List Ch) (fm n : Nat) (D : DataW Unit) (r p : Nat) (ov : Value) (wr : World) : Prop :=
  ∃ (left : Lit → Bool) (cnt : Nat) (is : List Nat) (own : Own) (g : Gh), wr.ranges Tryz.prog 9 Rp fm r n D left cnt ∧ is.length + cnt ≤ 64 ∧ Went s.fs left is ∧ Rep own wr p (leftSt s which cs is) g ∧
    (∀ k, k < w.heap.size → own k = none) ∧ own r = none ∧ (∀ k, blk ov = some k → own k = none ∧ k < wr.heap.size ∧ k ≠ r) ∧ Row wr 3 1 ov (ordersOf s.fs).length (icells (ordersOf s.fs)) ∧ Below w.heap.size w wr
end Go.Proofs.YtpkhghjmelgpeaaGreat.Wk
