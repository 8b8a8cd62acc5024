/- What a book's own files are found to be: the first third: each list is written over with marks. -/
import Derived.Test.YtmfbjmffodnaeaaW13
import Derived.Test.YtmfbjmffodnaeaaA1
import Derived.Deep.RegionHeld3
set_option linter.unusedVariables false
namespace Go.Proofs.Ytmfbjmffodnaeaa.Wk
open Go.ChangeShapes Go.WideShapes Go.ChangeAt Go.RowKit M

def noB : ByteArray := ⟨#[]⟩
/-- The marks of list i; those behind it. -/
def mk1 (i n : Nat) : Fs := (List.range n).map fun (k : Nat) => (markS ((i : Int) * 1000 + (k : Int)), noB)
def mk2 (i n : Nat) : Fs := (List.range n).map fun (k : Nat) => (markS ((-1 - (i : Int)) * 1000 - (k : Int)), noB)
theorem mk1_succ (i k : Nat) : fcells (mk1 i (k + 1)) = fcells (mk1 i k) ++ [.string (markS ((i : Int) * 1000 + (k : Int))), .string noB] := by
  unfold mk1; rw [List.range_succ, List.map_append]; exact fcells_snoc _ _
theorem mk2_succ (i k : Nat) : fcells (mk2 i (k + 1)) = fcells (mk2 i k) ++ [.string (markS ((-1 - (i : Int)) * 1000 - (k : Int))), .string noB] := by
  unfold mk2; rw [List.range_succ, List.map_append]; exact fcells_snoc _ _
theorem mk1_len (i n : Nat) : (fcells (mk1 i n)).length = n * 2 := by rw [fcells_len]; simp [mk1]
theorem mk2_len (i n : Nat) : (fcells (mk2 i n)).length = n * 2 := by rw [fcells_len]; simp [mk2]

theorem mk1_get (i n k : Nat) (h : k < n) (ts : List Value) : (fcells (mk1 i n) ++ ts)[k * 2]? = some (.string (markS ((i : Int) * 1000 + (k : Int)))) ∧ (fcells (mk1 i n) ++ ts)[k * 2 + 1]? = some (.string ⟨#[]⟩) := by
  have hl := mk1_len i n
  obtain ⟨h1, h2⟩ := fcells_get (mk1 i n) k (by simp [mk1, h])
  rw [List.getElem?_append_left (by omega), List.getElem?_append_left (by omega), h1, h2]
  simp [mk1, noB]
theorem mk2_get (i n k : Nat) (h : k < n) (cs : List Value) (m : Nat) (hc : cs.length = m * 2) : (cs ++ fcells (mk2 i n))[(m + k) * 2]? = some (.string (markS ((-1 - (i : Int)) * 1000 - (k : Int)))) ∧ (cs ++ fcells (mk2 i n))[(m + k) * 2 + 1]? = some (.string ⟨#[]⟩) := by
  obtain ⟨h1, h2⟩ := fcells_get (mk2 i n) k (by simp [mk2, h])
  rw [List.getElem?_append_right (by omega), List.getElem?_append_right (by omega), hc, show (m + k) * 2 - m * 2 = k * 2 by omega, show (m + k) * 2 + 1 - m * 2 = k * 2 + 1 by omega, h1, h2]
  simp [mk2, noB]
abbrev Rs := List (Value × Nat)
/-- The rows hold these cells. -/
def Rws (w : World) (base : Nat) (rs : Rs) (c : Nat → List Value) : Prop := ∀ i (h : i < rs.length), w.ownsRow base 58 2 rs[i].1 rs[i].2 (c i)
/-- No two of them share memory. -/
def Dis (rs : Rs) : Prop := ∀ i j (hi : i < rs.length) (hj : j < rs.length), i ≠ j → ∀ g, rs[i].1.ownBlock = some g → rs[j].1.ownBlock ≠ some g
theorem Rws.below {w w' : World} {base : Nat} {rs : Rs} {c : Nat → List Value} (h : Rws w base rs c) (hb : Below w.heap.size w w') : Rws w' base rs c := fun i hi => own_kept_below (h i hi) hb

theorem own_set {w : World} {base size n g o : Nat} {e : TypeId} {v u : Value} {xs : List Value} (h : w.ownsRow base e size v n xs) (hv : v.ownBlock = some g) (ho : o < xs.length) : (w.setCell ⟨g, o, none⟩ u).ownsRow base e size v n (xs.set o u) := by
  refine ⟨by rw [List.length_set]; exact h.1, ?_⟩
  rcases h.2 with ⟨rfl, _⟩ | ⟨g', cap, cur, rfl, hg, hh, h1, h2, h3, h4⟩
  · simp [Value.ownBlock] at hv
  · have : g' = g := by simpa [Value.ownBlock] using hv
    subst this
    refine .inr ⟨g', cap, cur.setIfInBounds o u, rfl, hg, heap_set hh o u, h1, h2, by simp [h3], ?_⟩
    rw [Array.toList_setIfInBounds, List.take_set, h4]
theorem set_two (ps rs : List Value) (a b s1 s2 : Value) : ((ps ++ (a :: b :: rs)).set ps.length s1).set (ps.length + 1) s2 = ps ++ ([s1, s2] ++ rs) := by
  rw [List.set_append_right _ _ (by omega), List.set_append_right _ _ (by omega)]
  simp
theorem drop_two {xs : List Value} {k : Nat} (h : k * 2 + 1 < xs.length) : ∃ a b, xs.drop (k * 2) = a :: b :: xs.drop ((k + 1) * 2) := by
  refine ⟨xs[k * 2], xs[k * 2 + 1], ?_⟩
  rw [List.drop_eq_getElem_cons (by omega), List.drop_eq_getElem_cons (i := k * 2 + 1) (by omega)]
  rw [show k * 2 + 1 + 1 = (k + 1) * 2 by omega]
theorem bcell {W w1 : World} (hb : Below W.heap.size W w1) : (∀ b o, b < W.heap.size → w1.cell? ⟨b, o, none⟩ = W.cell? ⟨b, o, none⟩) ∧ (∀ b o, b < W.heap.size → w1.frozen? ⟨b, o, none⟩ = W.frozen? ⟨b, o, none⟩) :=
  ⟨fun b o h => hb.cell (p := ⟨b, o, none⟩) h, fun b o h => hb.frozen (p := ⟨b, o, none⟩) h⟩
theorem own_cell {w : World} {base size n g cap o : Nat} {e : TypeId} {xs : List Value} {u : Value} (h : w.ownsRow base e size (.slice (some ⟨g, 0, none⟩) n cap) n xs) (ho : xs[o]? = some u) : w.cell? ⟨g, o, none⟩ = some u ∧ w.frozen? ⟨g, o, none⟩ = false ∧ g < w.heap.size := by
  have h1 := h.cells (g := g) rfl o _ ho
  rw [add_zero_off] at h1
  refine ⟨h1, ?_, (h.lt g rfl).2⟩
  rcases h.2 with ⟨hv, _⟩ | ⟨g', cap', cur, hv, hg, hh, _⟩
  · cases hv
  · injection hv with e1
    injection e1 with e1
    injection e1 with e1
    subst e1
    exact Lib.frozen_of_heap hh o
theorem get_some {xs : List Value} {o : Nat} (h : o < xs.length) : ∃ u, xs[o]? = some u := ⟨xs[o], List.getElem?_eq_getElem h⟩
theorem rs_get {rs : Rs} {i : Nat} {v : Value} (h : i < rs.length) (hv : rs[i].1 = v) : (rs.map (·.1))[i]? = some v := by
  rw [List.getElem?_map, List.getElem?_eq_getElem h]; simp [hv]
/-- An own row as the walk reads it. -/
theorem own_form {w : World} {base size n : Nat} {e : TypeId} {v : Value} {xs : List Value} (h : w.ownsRow base e size v n xs) : ∃ A cap, v = .slice A n cap ∧ n ≤ maxLen ∧ (0 < n → ∃ g, A = some ⟨g, 0, none⟩) := by
  rcases h.2 with ⟨rfl, rfl⟩ | ⟨g, cap, cur, rfl, _, _, h1, h2, _⟩
  · exact ⟨none, 0, rfl, Nat.zero_le _, fun h => absurd h (by omega)⟩
  · exact ⟨_, cap, rfl, Nat.le_trans h1 h2, fun _ => ⟨g, rfl⟩⟩

/-- What the first loop's rounds hold. -/
def c1 (rs : Rs) (xs : Nat → List Value) (i k j : Nat) : List Value :=
  if j < i then fcells (mk1 j ((rs.map (·.2)).getD j 0)) else if j = i then fcells (mk1 i k) ++ (xs i).drop (k * 2) else xs j

theorem own_heap {w : World} {base size n g cap : Nat} {e : TypeId} {xs : List Value} (h : w.ownsRow base e size (.slice (some ⟨g, 0, none⟩) n cap) n xs) : ∃ cur, w.heap[g]? = some (.cells cur e (0, 0)) ∧ base ≤ g := by
  rcases h.2 with ⟨hv, _⟩ | ⟨g', cap', cur, hv, hg, hh, _⟩
  · cases hv
  · injection hv with e1
    injection e1 with e1
    injection e1 with e1
    subst e1
    exact ⟨cur, hh, hg⟩
theorem kept_set {w : World} {base size n g o : Nat} {e : TypeId} {v u : Value} {xs : List Value} (h : w.ownsRow base e size v n xs) (hne : v.ownBlock ≠ some g) : (w.setCell ⟨g, o, none⟩ u).ownsRow base e size v n xs := by
  refine h.kept (grown_set w g o u) ?_
  rcases hv : v.ownBlock with _ | x
  · exact .inl rfl
  · exact .inr (by rw [← hv]; exact hne)
/-- Of what there was, the rows' own blocks alone may have changed. -/
structure Kp (base : Nat) (rs : Rs) (w w' : World) : Prop where
  low : Below base w w'
  kept : ∀ k, k < w.heap.size → (∀ i (h : i < rs.length), rs[i].1.ownBlock ≠ some k) → w'.heap[k]? = w.heap[k]?
section
variable {base : Nat} {rs : Rs} {w X Y : World}
theorem Kp.refl (w : World) : Kp base rs w w := ⟨Below.refl _ _, fun _ _ _ => rfl⟩
theorem Kp.below (h : Kp base rs w X) (b : Below X.heap.size X Y) (hb : base ≤ w.heap.size) : Kp base rs w Y :=
  ⟨h.low.trans (b.mono (Nat.le_trans hb h.low.size)), fun k hk hn => (b.block k (Nat.lt_of_lt_of_le hk h.low.size)).trans (h.kept k hk hn)⟩
theorem Kp.set (h : Kp base rs w X) {i g o : Nat} {u : Value} (hi : i < rs.length) (hg : rs[i].1.ownBlock = some g) (hb : base ≤ g) : Kp base rs w (X.setCell ⟨g, o, none⟩ u) :=
  ⟨h.low.setCell (p := ⟨g, o, none⟩) hb _, fun k hk hn => (Below.heap_setCell X ⟨g, o, none⟩ u k (fun e => hn i hi (by rw [hg, e]))).trans (h.kept k hk hn)⟩
theorem Kp.grown (h : Kp base rs w X) {row : Option Nat} (hg : X.grownBy Y row) (hb : base ≤ w.heap.size) (hr : ∀ g, row = some g → base ≤ g ∧ (w.heap.size ≤ g ∨ ∃ (i : Nat) (hi : i < rs.length), rs[i].1.ownBlock = some g)) : Kp base rs w Y :=
  ⟨h.low.grown hg (Nat.le_trans hb h.low.size) (fun g e => (hr g e).1), fun k hk hn => (hg.block k (Nat.lt_of_lt_of_le hk h.low.size) (fun e => by
    rcases (hr k e.symm).2 with h1 | ⟨i, hi, h1⟩
    · omega
    · exact hn i hi h1)).trans (h.kept k hk hn)⟩
end
theorem row_write {w : World} {base m g ni ci i k : Nat} {V : Value} {vs : List Value} {rs : Rs} {xs : Nat → List Value} {ms : ByteArray} (hO : w.ownsRow base 39 1 V m vs) (hR : Rws w base rs (c1 rs xs i k)) (hD : Dis rs) (hi : i < rs.length)
    (hv : rs[i].1 = .slice (some ⟨g, 0, none⟩) ni ci) (hn : rs[i].2 = ni) (hk : k < ni) (hms : fcells (mk1 i (k + 1)) = fcells (mk1 i k) ++ [.string ms, .string noB]) :
    ((w.setCell ⟨g, k * 2, none⟩ (.string ms)).setCell ⟨g, k * 2 + 1, none⟩ (.string noB)).ownsRow base 39 1 V m vs ∧
    Rws ((w.setCell ⟨g, k * 2, none⟩ (.string ms)).setCell ⟨g, k * 2 + 1, none⟩ (.string noB)) base rs (c1 rs xs i (k + 1)) ∧
    ∀ w0, Kp base rs w0 w → Kp base rs w0 ((w.setCell ⟨g, k * 2, none⟩ (.string ms)).setCell ⟨g, k * 2 + 1, none⟩ (.string noB)) := by
  have hri := hR i hi
  have hcon : ∀ q, c1 rs xs i q i = fcells (mk1 i q) ++ (xs i).drop (q * 2) := fun q => by unfold c1; rw [if_neg (by omega), if_pos rfl]
  have hri2 := hri
  rw [hv, hn] at hri2
  obtain ⟨cur, hh, hg⟩ := own_heap hri2
  have hob : rs[i].1.ownBlock = some g := by rw [hv]; rfl
  have hVg : V.ownBlock ≠ some g := own_ne hO hh (by decide)
  refine ⟨kept_set (kept_set hO hVg) hVg, fun j hj => ?_, fun w0 h0 => (h0.set hi hob hg).set hi hob hg⟩
  by_cases hij : j = i
  · subst hij
    have hl1 := mk1_len j k
    rw [hcon] at hri
    have hlen := hri.1
    rw [hn] at hlen
    have hdl : k * 2 + 1 < (xs j).length := by
      rw [List.length_append, List.length_drop, hl1] at hlen; omega
    obtain ⟨a, b, hab⟩ := drop_two hdl
    have h1 := own_set (o := k * 2) (u := .string ms) hri hob (by omega)
    have h2 := own_set (o := k * 2 + 1) (u := .string noB) h1 hob (by rw [List.length_set]; omega)
    rw [hcon, hms]
    rw [hab, ← hl1, set_two] at h2
    rw [List.append_assoc, ← hl1]
    exact h2
  · have hne : rs[j].1.ownBlock ≠ some g := hD i j hi hj (fun e => hij e.symm) g hob
    have e1 : c1 rs xs i (k + 1) j = c1 rs xs i k j := by unfold c1; rw [if_neg hij, if_neg hij]
    rw [e1]
    exact kept_set (kept_set (hR j hj) hne) hne

theorem below_drew {w X w5 : World} (h : Below w.heap.size w X) (b5 : Below X.drew.heap.size X.drew w5) : Below w.heap.size w w5 :=
  h.trans (Below.mono (w := X) ⟨b5.os, b5.tape, b5.output, b5.size, b5.block⟩ h.size)
theorem below_plain {w X w5 : World} (h : Below w.heap.size w X) (b5 : Below X.heap.size X w5) : Below w.heap.size w w5 := h.trans (b5.mono h.size)
/-- What the rows hold when all are written over. -/
def cF (rs : Rs) (j : Nat) : List Value := fcells (mk1 j ((rs.map (·.2)).getD j 0))
theorem cF_eq {rs : Rs} {j : Nat} (h : j < rs.length) : cF rs j = fcells (mk1 j rs[j].2) := by
  unfold cF
  congr 2
  rw [List.getD_eq_getElem?_getD, List.getElem?_map, List.getElem?_eq_getElem h]; rfl
/-- The second third: i lists have grown. -/
structure Ph2 (w : World) (base : Nat) (rs : Rs) (i : Nat) (V2 : Value) (ys : List Value) : Prop where
  len : ys.length = i
  long : w.ownsRow base 39 1 V2 i ys
  rows : Rws w base rs (cF rs)
  made : ∀ j (h : j < ys.length) (h2 : j < rs.length), w.ownsRow base 58 2 ys[j] (rs[j].2 + 16) (fcells (mk1 j rs[j].2) ++ fcells (mk2 j 16))
  apart : ∀ j (h : j < ys.length) j' (h' : j' < rs.length), i ≤ j' → ∀ g, ys[j].ownBlock = some g → rs[j'].1.ownBlock ≠ some g
theorem kept_ne {w w' : World} {base size n : Nat} {e : TypeId} {v l : Value} {xs : List Value} (h : w.ownsRow base e size v n xs) (hg : w.grownBy w' l.ownBlock) (hne : ∀ g, l.ownBlock = some g → v.ownBlock ≠ some g) : w'.ownsRow base e size v n xs := by
  refine h.kept hg ?_
  rcases hv : v.ownBlock with _ | x
  · exact .inl rfl
  · refine .inr fun e => ?_
    exact hne x (by rw [← e]) hv
theorem kept_39 {w w' : World} {base n k : Nat} {v l : Value} {xs c : List Value} (h : w.ownsRow base 39 1 v k xs) (hl : w.ownsRow base 58 2 l n c) (hg : w.grownBy w' l.ownBlock) : w'.ownsRow base 39 1 v k xs := by
  refine kept_ne h hg fun g hg2 e => ?_
  rcases hl.2 with ⟨rfl, _⟩ | ⟨g', cap, cur, rfl, _, hh, _⟩
  · simp [Value.ownBlock] at hg2
  · have : g' = g := by simpa [Value.ownBlock] using hg2
    subst this
    exact own_ne h hh (by decide) e
/-- One list more has grown. -/
theorem Ph2.step {w1 w2 w3 : World} {base i n : Nat} {rs : Rs} {V2 V3 x : Value} {ys : List Value} (h : Ph2 w1 base rs i V2 ys) (hD : Dis rs) (hi : i < rs.length) (hn : rs[i].2 = n)
    (hG : Growing w1 w2 base 58 2 rs[i].1 x n 16 (fcells (mk1 i n)) (fcells (mk2 i 16))) (h3 : w3.ownsRow base 39 1 V3 (i + 1) (ys ++ [x])) (hg3 : ∃ o, (w2.alloc o).grownBy w3 V2.ownBlock) : Ph2 w3 base rs (i + 1) V3 (ys ++ [x]) := by
  obtain ⟨o, hg3⟩ := hg3
  have hl := h.rows i hi
  have h58 : ∀ g, V2.ownBlock = some g → ∃ cur, w1.heap[g]? = some (.cells cur 39 (0, 0)) := by
    intro g hg
    obtain ⟨A, c, hv, _, hA⟩ := own_form h.long
    rcases Nat.eq_zero_or_pos i with h0 | h0
    · rcases h.long.2 with ⟨rfl, _⟩ | ⟨g', cap, cur, rfl, _, hh, _⟩
      · simp [Value.ownBlock] at hg
      · have : g' = g := by simpa [Value.ownBlock] using hg
        subst this; exact ⟨cur, hh⟩
    · rcases h.long.2 with ⟨rfl, _⟩ | ⟨g', cap, cur, rfl, _, hh, _⟩
      · simp [Value.ownBlock] at hg
      · have : g' = g := by simpa [Value.ownBlock] using hg
        subst this; exact ⟨cur, hh⟩
  -- a row of files that is not the list's own: kept over both
  have carry : ∀ {v : Value} {k : Nat} {xs : List Value}, w2.ownsRow base 58 2 v k xs → (∀ g, V2.ownBlock = some g → v.ownBlock ≠ some g) → w3.ownsRow base 58 2 v k xs := fun hv hne => kept_ne (hv.alloc o) hg3 hne
  have far : ∀ {w : World} {v : Value} {k : Nat} {xs : List Value}, w1.ownsRow base 58 2 v k xs → ∀ g, V2.ownBlock = some g → v.ownBlock ≠ some g := by
    intro w v k xs hv g hg
    obtain ⟨cur, hh⟩ := h58 g hg
    exact own_ne hv hh (by decide)
  refine ⟨by simp [h.len], h3, fun j hj => ?_, fun j hj hj2 => ?_, fun j hj j' hj' hij g hg => ?_⟩
  · by_cases hij : j = i
    · subst hij
      have := hG.left
      rw [cF_eq hj, hn]
      exact carry this (far (w := w1) (by have := h.rows j hj; rwa [cF_eq hj, hn] at this))
    · exact carry (kept_ne (h.rows j hj) hG.grown (fun g hg => hD i j hi hj (fun e => hij e.symm) g hg)) (far (w := w1) (h.rows j hj))
  · by_cases hij : j < ys.length
    · rw [List.getElem_append_left hij]
      have hm := h.made j hij hj2
      refine carry (kept_ne hm hG.grown (fun g hg e => ?_)) (far (w := w1) hm)
      exact h.apart j hij i hi (Nat.le_refl _) g e hg
    · have hje : j = i := by rw [List.length_append, h.len] at hj; simp at hj; have := h.len; omega
      subst hje
      have : (ys ++ [x])[j] = x := by rw [List.getElem_append_right (by omega)]; simp
      rw [this, hn]
      refine carry hG.own (fun g hg e => ?_)
      obtain ⟨cur, hh⟩ := h58 g hg
      rcases hG.row with ⟨A, cap, e1, e2⟩ | ⟨g', cap, e1, e2⟩
      · have e3 : rs[j].1.ownBlock = some g := by rw [e2]; rw [e1] at e; cases A with
          | none => simp [Value.ownBlock] at e
          | some a => simpa [Value.ownBlock] using e
        exact own_ne hl hh (by decide) e3
      · have e3 : g' = g := by rw [e1] at e; simpa [Value.ownBlock] using e
        have := (h.long.lt g hg).2
        omega
  · by_cases hjl : j < ys.length
    · rw [List.getElem_append_left hjl] at hg
      exact h.apart j hjl j' hj' (by omega) g hg
    · have hje : j = i := by rw [List.length_append, h.len] at hj; simp at hj; have := h.len; omega
      subst hje
      have : (ys ++ [x])[j] = x := by rw [List.getElem_append_right (by have := h.len; omega)]; simp
      rw [this] at hg
      rcases hG.row with ⟨A, cap, e1, e2⟩ | ⟨g', cap, e1, e2⟩
      · have e3 : rs[j].1.ownBlock = some g := by rw [e2]; rw [e1] at hg; cases A with
          | none => simp [Value.ownBlock] at hg
          | some a => simpa [Value.ownBlock] using hg
        exact hD j j' hi hj' (by omega) g e3
      · have e3 : g' = g := by rw [e1] at hg; simpa [Value.ownBlock] using hg
        intro e4
        have := ((h.rows j' hj').lt g e4).2
        omega

set_option maxHeartbeats 2000000 in
set_option maxRecDepth 100000 in
theorem ownF_1 (A : Option Addr) (cap base : Nat) (rs : Rs) (xs : Nat → List Value) (w : World) (hb : base ≤ w.heap.size) (hm : rs.length ≤ 1000) (hn : ∀ i (h : i < rs.length), rs[i].2 ≤ 33554431)
    (hO : w.ownsRow base 39 1 (.slice A rs.length cap) rs.length (rs.map (·.1))) (hR : Rws w base rs xs) (hD : Dis rs) :
    Calls Try.prog 44 #[.slice A rs.length cap] w fun e w' => e = .returned (.bool true) ∧ Kp base rs w w' := by
  have HN := Lib.hid hn
  have HD := Lib.hid hD
  clear hn hD
  go_enter Try.func44, Try.ntmps44
  go_wp2
  go_loopw [3] (fun i wr => ∃ i' : Nat, i' ≤ rs.length ∧ i = .int .i64 i' ∧ wr.ownsRow base 39 1 (.slice A rs.length cap) rs.length (rs.map (·.1)) ∧ Rws wr base rs (c1 rs xs i' 0) ∧ Kp base rs w wr)
    (fun i _ => rs.length - (intOf i).toNat)
  case atStart => exact ⟨0, Nat.zero_le _, rfl, hO, fun j hj => by
    have := hR j hj
    unfold c1
    rw [if_neg (by omega)]
    split
    · rename_i h; subst h; simpa [mk1, fcells] using this
    · exact this, Kp.refl _⟩
  case round =>
    obtain ⟨i, hi, rfl, hOr, hRr, hnx⟩ := hrel
    by_cases hlt : i < rs.length
    · have hnw := HN.out i hlt
      obtain ⟨Ai, ci, hv, _, hg⟩ := own_form (hRr i hlt)
      obtain ⟨_, _, hV, _, hG⟩ := own_form hOr
      injection hV with hV1 hV2 hV3
      subst hV1 hV3
      obtain ⟨G, rfl⟩ := hG (by omega)
      have hcell := (own_cell hOr (rs_get hlt hv)).1
      have HV : Hid (rs[i].1 = .slice Ai rs[i].2 ci) := Lib.hid hv
      have HR := Lib.hid hRr
      clear hv hRr hG hV2
      generalize hni : rs[i].2 = ni at *
      have HNI := Lib.hid hni
      clear hni
      go_wp2_with fail
      go_loopw [4] (fun kk wr2 => ∃ k : Nat, k ≤ ni ∧ kk = .int .i64 k ∧ wr2.ownsRow base 39 1 (.slice (some ⟨G, 0, none⟩) rs.length cap) rs.length (rs.map (·.1)) ∧ Rws wr2 base rs (c1 rs xs i k) ∧ Kp base rs w wr2)
        (fun kk _ => ni - (intOf kk).toNat)
      case atStart => exact ⟨0, Nat.zero_le _, rfl, hOr, HR.out, hnx⟩
      case round =>
        obtain ⟨k, hk, rfl, hO2, hR2, hb2⟩ := hrel
        obtain ⟨hcell2, _, hGl⟩ := own_cell hO2 (rs_get hlt HV.out)
        by_cases hkt : k < ni
        · obtain ⟨g, rfl⟩ := hg (by omega)
          have hri := hR2 i hlt
          rw [HV.out, HNI.out] at hri
          have hlen := hri.1
          have hl1 : (fcells (mk1 i k)).length = k * 2 := mk1_len i k
          have hcon : c1 rs xs i k i = fcells (mk1 i k) ++ (xs i).drop (k * 2) := by unfold c1; rw [if_neg (by omega), if_pos rfl]
          rw [hcon] at hri hlen
          have hlx : k * 2 + 1 < (fcells (mk1 i k) ++ (xs i).drop (k * 2)).length := by omega
          obtain ⟨u1, hu1⟩ := get_some (show k * 2 < (fcells (mk1 i k) ++ (xs i).drop (k * 2)).length by omega)
          obtain ⟨u2, hu2⟩ := get_some hlx
          obtain ⟨e1, e2, e3⟩ := own_cell hri hu1
          obtain ⟨f1, f2, _⟩ := own_cell hri hu2
          have HM : Hid (∀ w : World, Calls Try.prog 53 #[.int .i64 ((i : Int) * 1000 + (k : Int))] w fun e w' => e = .returned (.string (markS ((i : Int) * 1000 + (k : Int)))) ∧ Below w.heap.size w w') :=
            Lib.hid (fun w => mark_any _ w (by omega) (by omega))
          have HRI := Lib.hid hri
          have HC := Lib.hid hcon
          have HO2 := Lib.hid hO2
          have HR2 := Lib.hid hR2
          have HS := Lib.hid (mk1_succ i k)
          clear hri hcon hO2 hR2 hlen hlx hu1 hu2
          generalize markS ((i : Int) * 1000 + (k : Int)) = ms at *
          have hi1 : (i : Int) < (rs.length : Int) := by omega
          have hk1 : (k : Int) < (ni : Int) := by omega
          have hw1 : IntKind.i64.wrap ((i : Int) * 1000) = (i : Int) * 1000 := IntWalk.i64_in _ (by omega)
          have hw2 : IntKind.i64.wrap ((i : Int) * 1000 + (k : Int)) = (i : Int) * 1000 + (k : Int) := IntWalk.i64_in _ (by omega)
          go_wp2_with fail
          go_region_with (first | (go_at_call 53; (with_reducible refine (HM.out _).mono ?_); rintro e w5 ⟨rfl, b5⟩; (have q1 := ((bcell b5).1 g (k * 2) (by simpa using e3)).trans (by simpa using e1)); (have q2 := ((bcell b5).1 g (k * 2 + 1) (by simpa using e3)).trans (by simpa using f1)); (have q3 := ((bcell b5).2 g (k * 2) (by simpa using e3)).trans (by simpa using e2)); (have q4 := ((bcell b5).2 g (k * 2 + 1) (by simpa using e3)).trans (by simpa using f2)); (have q5 := ((bcell b5).1 G i (by simpa using hGl)).trans (by simpa using hcell2)); (have q6 := b5.size)))
          all_goals
            clear q1 q2 q3 q4 q5
            have b6 : Below wr.heap.size wr w5 := ⟨b5.os, b5.tape, b5.output, b5.size, b5.block⟩
            obtain ⟨r1, r2, r3⟩ := row_write (own_kept_below HO2.out b6) (HR2.out.below b6) HD.out hlt HV.out HNI.out hkt HS.out
            have hB := Lib.hid (r3 _ (hb2.below b6 hb))
            go_wp2
            go_roundw
            case rel => exact ⟨k + 1, by omega, by go_num, r1, r2, hB.out⟩
            case measure => simp [intOf]; omega
        · have hkn : k = ni := by omega
          subst hkn
          have hR3 : Hid (Rws wr base rs (c1 rs xs (i + 1) 0)) := Lib.hid (fun j hj => by
            have h1 := hR2 j hj
            have e : c1 rs xs (i + 1) 0 j = c1 rs xs i k j := by
              unfold c1
              by_cases h2 : j < i
              · rw [if_pos (by omega), if_pos h2]
              · by_cases h3 : j = i
                · subst h3
                  have hlx := h1.1
                  unfold c1 at hlx
                  rw [if_neg (by omega), if_pos rfl, List.length_append, mk1_len, HNI.out] at hlx
                  have hd : (xs j).drop (k * 2) = [] := List.eq_nil_of_length_eq_zero (by omega)
                  rw [if_pos (by omega), if_neg (by omega), if_pos rfl, hd, List.append_nil]
                  congr 2
                  rw [List.getD_eq_getElem?_getD, List.getElem?_map, List.getElem?_eq_getElem hj]
                  simpa using HNI.out
                · rw [if_neg (by omega), if_neg h2, if_neg h3]
                  by_cases h4 : j = i + 1
                  · rw [if_pos h4]; subst h4; simp [mk1, fcells]
                  · rw [if_neg h4]
            rw [e]; exact h1)
          have HO2 := Lib.hid hO2
          clear hR2 hO2
          go_wp2
          go_roundw
          case rel => exact ⟨i + 1, by omega, by go_num, HO2.out, hR3.out, hb2⟩
          case measure => simp [intOf]; omega
    · have hie : i = rs.length := by omega
      have hP : Hid (Ph2 wr base rs 0 (.slice none 0 0) []) := Lib.hid ⟨rfl, World.ownsRow_nil _ _ _ _, fun j hj => by
        have h1 := hRr j hj
        have e : c1 rs xs i 0 j = cF rs j := by unfold c1 cF; rw [if_pos (by omega)]
        rw [← e]; exact h1, fun j h => absurd h (by simp), fun j h => absurd h (by simp)⟩
      have HO := Lib.hid hOr
      have HGw : Hid (∀ g, (Value.slice A rs.length cap).ownBlock = some g → g < w.heap.size) := Lib.hid (fun g hg => (hO.lt g hg).2)
      clear hR hRr hO hOr
      go_wp2_with fail
      go_loopw [5, 6] (fun V2 ii wr2 => ∃ (i2 : Nat) (ys : List Value), i2 ≤ rs.length ∧ ii = .int .i64 i2 ∧ Hid (Ph2 wr2 base rs i2 V2 ys) ∧ Hid (wr2.ownsRow base 39 1 (.slice A rs.length cap) rs.length (rs.map (·.1))) ∧ Kp base rs w wr2 ∧ Hid (∀ g, V2.ownBlock = some g → w.heap.size ≤ g))
        (fun _ ii _ => rs.length - (intOf ii).toNat)
      case atStart => exact ⟨0, [], Nat.zero_le _, rfl, hP, HO, hnx, Lib.hid (fun g hg => by simp [Value.ownBlock] at hg)⟩
      case round =>
        obtain ⟨i2, ys, hi2, rfl, HP, HO2, hb2, HVG⟩ := hrel
        clear hP HO hnx hie hlt hi
        by_cases hlt2 : i2 < rs.length
        · have hnw := HN.out i2 hlt2
          obtain ⟨Ai, ci, hv, _, _⟩ := own_form (HP.out.rows i2 hlt2)
          have hO2 := HO2.out
          obtain ⟨_, _, hV, _, hG⟩ := own_form hO2
          injection hV with hV1 hV2 hV3
          subst hV1 hV3
          obtain ⟨G, rfl⟩ := hG (by omega)
          obtain ⟨hcell, _, hGl⟩ := own_cell hO2 (rs_get hlt2 hv)
          clear hO2 hG hV2
          obtain ⟨info0, hif, hz0, hz1, hz2⟩ := info_parts info58
          have hri := HP.out.rows i2 hlt2
          rw [cF_eq hlt2] at hri
          have HV : Hid (rs[i2].1 = .slice Ai rs[i2].2 ci) := Lib.hid hv
          rw [hv] at hri
          generalize hni : rs[i2].2 = ni at *
          have HNI := Lib.hid hni
          have HG0 := Lib.hid (Growing.start hri)
          clear hv hri hni
          go_wp2_with fail
          go_loopw [7, 8] (fun x qq wr3 => ∃ q : Nat, q ≤ 16 ∧ qq = .int .i64 q ∧ Hid (Growing wr wr3 base 58 2 rs[i2].1 x ni q (fcells (mk1 i2 ni)) (fcells (mk2 i2 q))) ∧ wr.heap.size ≤ wr3.heap.size)
            (fun _ qq _ => 16 - (intOf qq).toNat)
          case atStart => exact ⟨0, Nat.zero_le _, rfl, by rw [HV.out]; exact HG0, Nat.le_refl _⟩
          case round =>
            obtain ⟨q, hq, rfl, HGr, hz3⟩ := hrel
            by_cases hq16 : q < 16
            · have HM : Hid (∀ w : World, Calls Try.prog 53 #[.int .i64 ((-1 - (i2 : Int)) * 1000 - (q : Int))] w fun e w' => e = .returned (.string (markS ((-1 - (i2 : Int)) * 1000 - (q : Int)))) ∧ Below w.heap.size w w') :=
                Lib.hid (fun w => mark_any _ w (by omega) (by omega))
              have HS := Lib.hid (mk2_succ i2 q)
              generalize markS ((-1 - (i2 : Int)) * 1000 - (q : Int)) = ms at *
              have hbz := hb2.low.size
              go_wp2_with (go_at_call 53; fail)
              refine (HM.out _).mono ?_
              rintro e w5 ⟨rfl, b5⟩
              have HG5 := (HGr.out.below b5).below ((Below.refl w5.heap.size w5).alloc (Nat.le_refl _) (.cells #[.string ms, .string noB] 58))
              have hz5 := b5.size
              go_wp2_with (first
                | (at_builtin; refine wpList_append_stay rfl _ _ 39 rfl base 58 info0 (.agg #[.string ByteArray.empty, .string ByteArray.empty]) 2 32 Try.underlying39 hif hz0 hz1 hz2 rfl (by decide) _ _ _ rfl HG5.own ⟨w5.heap.size, 0, none⟩ 1 1 [.string ms, .string noB] rfl rfl ?c1 ?c2 ?c3 ?c4 ?c5 (by decide) ?_))
              case c1 =>
                intro j u hj
                match j, hj with
                | 0, hj => simp at hj; subst hj; simp [Addr.add]
                | 1, hj => simp at hj; subst hj; simp [Addr.add, noB]
              case c2 => intro u hu; simp at hu; rcases hu with rfl | rfl <;> rfl
              case c3 => unfold maxLen; omega
              case c4 => omega
              case c5 => simp; omega
              intro x' w6 hown6 hgrow6 hstay6
              have HG6 := Lib.hid (HG5.step (mk1_len i2 ni) (by rw [List.append_assoc]; exact hown6) hgrow6 hstay6)
              rw [← HS.out] at HG6
              have hz6 := HG6.out.grown.size
              clear HG5 hown6 hgrow6 hstay6
              go_wp2
              go_roundw
              case rel => exact ⟨q + 1, by omega, by go_num, HG6, hz6⟩
              case measure => simp [intOf]; omega
            · have hq0 : q = 16 := by omega
              subst hq0
              obtain ⟨Ax, cx, hx, _, _⟩ := own_form HGr.out.own
              subst hx
              obtain ⟨info1, hif1, hy0, hy1, hy2⟩ := info_parts info39
              have hbz := hb2.low.size
              have HL := kept_39 HP.out.long (HP.out.rows i2 hlt2) HGr.out.grown
              go_wp2_with (first
                | (at_builtin; refine wpList_append_stay rfl _ _ 48 rfl base 39 info1 (.slice none 0 0) 1 24 Try.underlying48 hif1 hy0 hy1 hy2 rfl (by decide) _ _ _ rfl (HL.alloc _) ⟨wr.heap.size, 0, none⟩ 1 1 [.slice Ax (ni + 16) cx] rfl rfl ?c1 ?c2 ?c3 ?c4 ?c5 (by decide) ?_))
              case c1 =>
                intro j u hj
                match j, hj with
                | 0, hj => simp at hj; subst hj; simp [Addr.add]
              case c2 => intro u hu; simp at hu; subst hu; rfl
              case c3 => unfold maxLen; omega
              case c4 => omega
              case c5 => simp; omega
              intro V3 w7 hown7 hgrow7 hstay7
              have HP7 := Lib.hid (HP.out.step HD.out hlt2 HNI.out HGr.out hown7 ⟨_, hgrow7⟩)
              have HO7 : Hid (w7.ownsRow base 39 1 (.slice (some ⟨G, 0, none⟩) rs.length cap) rs.length (rs.map (·.1))) :=
                Lib.hid (kept_ne ((kept_39 HO2.out (HP.out.rows i2 hlt2) HGr.out.grown).alloc _) hgrow7 (fun g hg e => absurd (HGw.out g e) (by have := HVG.out g hg; omega)))
              have hrl := (HP.out.rows i2 hlt2).lt
              have hB3 : Kp base rs w wr := hb2.grown HGr.out.grown hb (fun b hb0 => ⟨(hrl b hb0).1, .inr ⟨i2, hlt2, hb0⟩⟩)
              have hB7 : Kp base rs w w7 := (hB3.below ((Below.refl wr.heap.size wr).alloc (Nat.le_refl _) _) hb).grown hgrow7 hb (fun b hb0 => ⟨(HL.lt b hb0).1, .inl (HVG.out b hb0)⟩)
              have HVG7 : Hid (∀ g, V3.ownBlock = some g → w.heap.size ≤ g) := Lib.hid (fun g hg => by
                rcases hstay7 with ⟨g1, c1, e1, e2⟩ | ⟨c1, e1, _⟩
                · have h1 := HVG.out g
                  rw [e1] at h1
                  rw [e2] at hg
                  exact h1 hg
                · rw [e1] at hg
                  have e5 : (wr.alloc (.cells #[.slice Ax (ni + 16) cx] 39)).heap.size = g := by simpa [Value.ownBlock] using hg
                  have := hB3.low.size
                  simp at e5
                  omega)
              clear hown7 hgrow7 hstay7 HL hrl hB3
              go_wp2
              go_roundw
              case rel => exact ⟨i2 + 1, _, by omega, by go_num, HP7, HO7, hB7, HVG7⟩
              case measure => simp [intOf]; omega
        · have hi2e : i2 = rs.length := by omega
          obtain ⟨A5, c5, hu5, _, hA5⟩ := own_form HP.out.long
          subst hu5
          subst hi2e
          have HA5 := Lib.hid hA5
          clear hA5
          obtain ⟨W3, hW3⟩ : ∃ W3 : World, W3 = wr := ⟨wr, rfl⟩
          subst hW3
          go_wp2_with fail
          go_loopw [9] (fun ii wr4 => ∃ i3 : Nat, i3 ≤ rs.length ∧ ii = .int .i64 i3 ∧ Below W3.heap.size W3 wr4)
            (fun ii _ => rs.length - (intOf ii).toNat)
          case atStart => exact ⟨0, Nat.zero_le _, rfl, Below.refl _ _⟩
          case round =>
            obtain ⟨i3, hi3, rfl, hb4⟩ := hrel
            have hbz3 : base ≤ W3.heap.size := Nat.le_trans hb hb2.low.size
            by_cases hlt3 : i3 < rs.length
            · have hnw := HN.out i3 hlt3
              have hri := HP.out.rows i3 hlt3
              rw [cF_eq hlt3] at hri
              have hyl : i3 < ys.length := by rw [HP.out.len]; exact hlt3
              have hyi := HP.out.made i3 hyl hlt3
              obtain ⟨Ai, ci, hv, _, hAi⟩ := own_form hri
              obtain ⟨Ay, cy, hvy, _, hAy⟩ := own_form hyi
              obtain ⟨_, _, hV, _, hG⟩ := own_form HO2.out
              injection hV with hV1 hV2 hV3
              subst hV1 hV3
              obtain ⟨G, rfl⟩ := hG (by omega)
              obtain ⟨G5, rfl⟩ := HA5.out (by omega)
              obtain ⟨gy, rfl⟩ := hAy (by omega)
              have k1 := own_cell HO2.out (rs_get hlt3 hv)
              have k2 := own_cell HP.out.long (show ys[i3]? = some _ by rw [List.getElem?_eq_getElem hyl, hvy])
              rw [hv] at hri
              rw [hvy] at hyi
              generalize hni : rs[i3].2 = ni at *
              have HB : Hid (∀ X : World, Below W3.heap.size W3 X → X.cell? ⟨G, i3, none⟩ = some (.slice Ai ni ci) ∧ X.cell? ⟨G5, i3, none⟩ = some (.slice (some ⟨gy, 0, none⟩) (ni + 16) cy)) :=
                Lib.hid (fun X hX => ⟨(hX.cell (p := ⟨G, i3, none⟩) k1.2.2).trans k1.1, (hX.cell (p := ⟨G5, i3, none⟩) k2.2.2).trans k2.1⟩)
              have HF : Hid (∀ (k : Nat), k < ni → ∃ gi, Ai = some ⟨gi, 0, none⟩ ∧ ∀ X : World, Below W3.heap.size W3 X →
                  X.cell? ⟨gi, k * 2, none⟩ = some (.string (markS ((i3 : Int) * 1000 + (k : Int)))) ∧ X.cell? ⟨gi, k * 2 + 1, none⟩ = some (.string ⟨#[]⟩) ∧
                  X.cell? ⟨gy, k * 2, none⟩ = some (.string (markS ((i3 : Int) * 1000 + (k : Int)))) ∧ X.cell? ⟨gy, k * 2 + 1, none⟩ = some (.string ⟨#[]⟩)) := Lib.hid (fun k hk => by
                obtain ⟨gi, rfl⟩ := hAi (by omega)
                obtain ⟨m1, m2⟩ := mk1_get i3 ni k hk []
                rw [List.append_nil] at m1 m2
                obtain ⟨m3, m4⟩ := mk1_get i3 ni k hk (fcells (mk2 i3 16))
                have a1 := own_cell hri m1
                have a2 := own_cell hri m2
                have a3 := own_cell hyi m3
                have a4 := own_cell hyi m4
                exact ⟨gi, rfl, fun X hX => ⟨(hX.cell (p := ⟨gi, k * 2, none⟩) a1.2.2).trans a1.1, (hX.cell (p := ⟨gi, k * 2 + 1, none⟩) a2.2.2).trans a2.1, (hX.cell (p := ⟨gy, k * 2, none⟩) a3.2.2).trans a3.1, (hX.cell (p := ⟨gy, k * 2 + 1, none⟩) a4.2.2).trans a4.1⟩⟩)
              have HT : Hid (∀ (k : Nat), k < 16 → ∀ X : World, Below W3.heap.size W3 X →
                  X.cell? ⟨gy, (ni + k) * 2, none⟩ = some (.string (markS ((-1 - (i3 : Int)) * 1000 - (k : Int)))) ∧ X.cell? ⟨gy, (ni + k) * 2 + 1, none⟩ = some (.string ⟨#[]⟩)) := Lib.hid (fun k hk => by
                obtain ⟨m3, m4⟩ := mk2_get i3 16 k hk (fcells (mk1 i3 ni)) ni (mk1_len i3 ni)
                have a3 := own_cell hyi m3
                have a4 := own_cell hyi m4
                exact fun X hX => ⟨(hX.cell (p := ⟨gy, (ni + k) * 2, none⟩) a3.2.2).trans a3.1, (hX.cell (p := ⟨gy, (ni + k) * 2 + 1, none⟩) a4.2.2).trans a4.1⟩)
              clear hri hyi hAi hAy hG hV2 k1 k2 hv hvy hni
              obtain ⟨p1, p2⟩ := HB.out _ hb4
              have hi31 : (i3 : Int) < (rs.length : Int) := by omega
              clear HP HO2 HVG HA5 hyl
              go_wp2_with fail
              clear p1 p2
              go_loopw [11] (fun kk wr5 => ∃ k : Nat, k ≤ ni ∧ kk = .int .i64 k ∧ Below W3.heap.size W3 wr5)
                (fun kk _ => ni - (intOf kk).toNat)
              case atStart => exact ⟨0, Nat.zero_le _, rfl, hb4⟩
              case round =>
                obtain ⟨k, hk, rfl, hb5⟩ := hrel
                clear hb4
                by_cases hkt : k < ni
                · obtain ⟨gi, rfl, HF0⟩ := HF.out k hkt
                  have HM : Hid (∀ w : World, Calls Try.prog 53 #[.int .i64 ((i3 : Int) * 1000 + (k : Int))] w fun e w' => e = .returned (.string (markS ((i3 : Int) * 1000 + (k : Int)))) ∧ Below w.heap.size w w') :=
                    Lib.hid (fun w => mark_any _ w (by omega) (by omega))
                  have HFX := Lib.hid HF0
                  clear HF0
                  generalize markS ((i3 : Int) * 1000 + (k : Int)) = ms at *
                  obtain ⟨q1, q2⟩ := HB.out _ hb5
                  obtain ⟨q3, q4, q5, q6⟩ := HFX.out _ hb5
                  have hk1 : (k : Int) < (ni : Int) := by omega
                  have hk2 : (k : Int) < (ni : Int) + 16 := by omega
                  have hk3 : (k : Int) < ((ni + 16 : Nat) : Int) := by omega
                  have hw1 : IntKind.i64.wrap ((i3 : Int) * 1000) = (i3 : Int) * 1000 := IntWalk.i64_in _ (by omega)
                  have hw2 : IntKind.i64.wrap ((i3 : Int) * 1000 + (k : Int)) = (i3 : Int) * 1000 + (k : Int) := IntWalk.i64_in _ (by omega)
                  go_wp2_with fail
                  have HM2 : Hid (∀ X : World, Below W3.heap.size W3 X → Calls Try.prog 53 #[.int .i64 ((i3 : Int) * 1000 + (k : Int))] X fun e w' => e = .returned (.string ms) ∧ Below W3.heap.size W3 w') :=
                    Lib.hid (fun X hX => (HM.out X).mono fun e w' ⟨h1, h2⟩ => ⟨h1, below_plain hX h2⟩)
                  go_region_held3 (fun X => X.cell? ⟨G, i3, none⟩ = some (.slice (some ⟨gi, 0, none⟩) ni ci) ∧ X.cell? ⟨G5, i3, none⟩ = some (.slice (some ⟨gy, 0, none⟩) (ni + 16) cy) ∧
                      X.cell? ⟨gi, k * 2, none⟩ = some (.string ms) ∧ X.cell? ⟨gi, k * 2 + 1, none⟩ = some (.string ⟨#[]⟩) ∧ X.cell? ⟨gy, k * 2, none⟩ = some (.string ms) ∧ X.cell? ⟨gy, k * 2 + 1, none⟩ = some (.string ⟨#[]⟩) ∧ Below W3.heap.size W3 X)
                    (first
                      | exact ⟨q1, q2, q3, q4, q5, q6, hb5.drew⟩
                      | exact ⟨(HB.out _ hb6).1, (HB.out _ hb6).2, (HFX.out _ hb6).1, (HFX.out _ hb6).2.1, (HFX.out _ hb6).2.2.1, (HFX.out _ hb6).2.2.2, hb6⟩)
                    (first
                      | (go_at_call 53; (with_reducible refine (HM2.out _ ?_).mono ?_); (go_split_ands; assumption); rintro e w5 ⟨rfl, hb6⟩))
                  all_goals
                    go_wp2
                    go_roundw
                    case rel => exact ⟨k + 1, by omega, by go_num, hb6⟩
                    case measure => simp [intOf]; omega
                · obtain ⟨q1, q2⟩ := HB.out _ hb5
                  have hkn : k = ni := by omega
                  subst hkn
                  clear q1 q2 HF
                  go_wp2_with fail
                  go_loopw [12] (fun kk wr6 => ∃ q : Nat, q ≤ 16 ∧ kk = .int .i64 q ∧ Below W3.heap.size W3 wr6)
                    (fun kk _ => 16 - (intOf kk).toNat)
                  case atStart => exact ⟨0, Nat.zero_le _, rfl, hb5⟩
                  case round =>
                    obtain ⟨q, hq, rfl, hb7⟩ := hrel
                    clear hb5
                    by_cases hqt : q < 16
                    · have HT0 := HT.out q hqt
                      have HM : Hid (∀ w : World, Calls Try.prog 53 #[.int .i64 ((-1 - (i3 : Int)) * 1000 - (q : Int))] w fun e w' => e = .returned (.string (markS ((-1 - (i3 : Int)) * 1000 - (q : Int)))) ∧ Below w.heap.size w w') :=
                        Lib.hid (fun w => mark_any _ w (by omega) (by omega))
                      have HTX := Lib.hid HT0
                      clear HT0
                      generalize markS ((-1 - (i3 : Int)) * 1000 - (q : Int)) = ms at *
                      obtain ⟨p1, p2⟩ := HB.out _ hb7
                      obtain ⟨p3, p4⟩ := HTX.out _ hb7
                      have hq1 : (k : Int) + (q : Int) < ((k + 16 : Nat) : Int) := by omega
                      have hq2 : (k : Int) + (q : Int) < (k : Int) + 16 := by omega
                      have hq3 : 0 ≤ (k : Int) + (q : Int) := by omega
                      have hq4 : ((k : Int) + (q : Int)).toNat = k + q := by omega
                      have hw1 : IntKind.i64.wrap (-1 - (i3 : Int)) = -1 - (i3 : Int) := IntWalk.i64_in _ (by omega)
                      have hw2 : IntKind.i64.wrap ((-1 - (i3 : Int)) * 1000) = (-1 - (i3 : Int)) * 1000 := IntWalk.i64_in _ (by omega)
                      have hw3 : IntKind.i64.wrap ((-1 - (i3 : Int)) * 1000 - (q : Int)) = (-1 - (i3 : Int)) * 1000 - (q : Int) := IntWalk.i64_in _ (by omega)
                      have hw4 : IntKind.i64.wrap ((k : Int) + (q : Int)) = (k : Int) + (q : Int) := IntWalk.i64_in _ (by omega)
                      have HM2 : Hid (∀ X : World, Below W3.heap.size W3 X → Calls Try.prog 53 #[.int .i64 ((-1 - (i3 : Int)) * 1000 - (q : Int))] X fun e w' => e = .returned (.string ms) ∧ Below W3.heap.size W3 w') :=
                        Lib.hid (fun X hX => (HM.out X).mono fun e w' ⟨h1, h2⟩ => ⟨h1, below_plain hX h2⟩)
                      clear HT
                      go_wp2_with fail
                      go_region_held3 (fun X => X.cell? ⟨G5, i3, none⟩ = some (.slice (some ⟨gy, 0, none⟩) (k + 16) cy) ∧ X.cell? ⟨gy, (k + q) * 2, none⟩ = some (.string ms) ∧ X.cell? ⟨gy, (k + q) * 2 + 1, none⟩ = some (.string ⟨#[]⟩) ∧ Below W3.heap.size W3 X)
                        (first
                          | exact ⟨p2, p3, p4, hb7.drew⟩
                          | exact ⟨(HB.out _ hb6).2, (HTX.out _ hb6).1, (HTX.out _ hb6).2, hb6⟩)
                        (first
                          | (go_at_call 53; (with_reducible refine (HM2.out _ ?_).mono ?_); (go_split_ands; assumption); rintro e w5 ⟨rfl, hb6⟩))
                      all_goals
                        go_wp2
                        go_roundw
                        case rel => exact ⟨q + 1, by omega, by go_num, hb6⟩
                        case measure => simp [intOf]; omega
                    · go_wp2
                      go_roundw
                      case rel => exact ⟨i3 + 1, by omega, by go_num, hb7⟩
                      case measure => simp [intOf]; omega
            · have HE := Lib.hid (hb2.below hb4 hb)
              go_wp2
              go_ret
              exact ⟨rfl, HE.out⟩
end Go.Proofs.Ytmfbjmffodnaeaa.Wk
