/- Orders, sorted. -/
import Derived.Test.YtpkhghjmelgpeaaGreatW29
import Derived.Sort.OwnSorted
set_option linter.unusedVariables false
namespace Go.Proofs.YtpkhghjmelgpeaaGreat.Wk
open Go.ChangeShapes Go.WideShapes Go.ChangeAt Go.RowKit M Go.Maps Go.Proofs Go.Sort Go.Shelf

def ints (l : List Nat) : List Int := l.map fun (x : Nat) => (x : Int)
theorem ints_get (l : List Nat) (j : Nat) (hj : j < l.length) : Value.int .i64 (ints l).toArray[j]! = .int .i64 l[j] := by
  rw [getElem!_pos _ _ (by simp [ints]; exact hj)]
  simp [ints]
theorem heap_sortedI {w : World} {g n : Nat} {os : Array Obj} {cur : Array Value} {e : TypeId} {fr : Nat × Nat} (d : Array Int) (hb : w.heap[g]? = some (.cells cur e fr)) :
    (grow (putRow (Value.int .i64) (Sort.ahead w n) g 0 d) os).heap[g]? = some (.cells (putCells (Value.int .i64) 0 d cur) e fr) := by
  have hg : g < w.heap.size := (Array.getElem?_eq_some_iff.1 hb).1
  rw [heap_grow_old _ _ (by simpa using hg)]
  simp [putRow, mapBlock, Sort.ahead, Array.getElem?_modify, hb, onCells]
theorem grownBy_sortedI {w : World} {g n : Nat} {os : Array Obj} (d : Array Int) : w.grownBy (grow (putRow (Value.int .i64) (Sort.ahead w n) g 0 d) os) (some g) := by
  refine ⟨rfl, rfl, rfl, by simp, fun k hk hne => ?_⟩
  rw [heap_grow_old _ _ (by simpa using hk)]
  have : g ≠ k := fun e => hne (by rw [e])
  simp [putRow, mapBlock, Sort.ahead, Array.getElem?_modify, this]
theorem take_putI (cur : Array Value) (ts : List Nat) (h : ts.length ≤ cur.size) : (putCells (Value.int .i64) 0 (ints ts).toArray cur).toList.take ts.length = icells ts := by
  apply List.ext_getElem?
  intro j
  by_cases hj : j < ts.length
  · rw [List.getElem?_take_of_lt hj, Array.getElem?_toList]
    simp [putCells, icells, ints, hj, show j < cur.size by omega]
  · rw [List.getElem?_take_eq_none (by omega), List.getElem?_eq_none (by simp [icells]; omega)]

def SortedI (w : World) (v : Value) (l : List Nat) (e : Ending) (w' : World) : Prop :=
  e = .returned (.tuple #[]) ∧ Row w' 3 1 v l.length (icells (l.mergeSort fun a b => decide (a ≤ b))) ∧ w.grownBy w' (blk v)
theorem sortI_any (v : Value) (l : List Nat) (w : World) (h : Row w 3 1 v l.length (icells l)) (hl : l.length ≤ 1099511627776) : Calls Tryz.prog 123 #[v] w (SortedI w v l) := by
  by_cases h0 : l = []
  · subst h0
    obtain ⟨a, c, rfl, _⟩ := h.cells
    refine (AnyM.slices_Sort_int_none YtpkhghjmelgpeaaGreat.Sk.sortI a c w).mono ?_
    rintro e w' ⟨rfl, rfl⟩
    have e0 : (([] : List Nat).mergeSort fun a b => decide (a ≤ b)) = [] := by simp
    refine ⟨rfl, ?_, ⟨rfl, rfl, rfl, Nat.le_refl _, fun _ _ _ => rfl⟩⟩
    rw [e0]; exact h
  · have hpos : 0 < l.length := List.length_pos_iff.2 h0
    have hcs := h.cells
    rcases h.2 with ⟨hn, _⟩ | ⟨g, cap, cur, rfl, hc0, ⟨fz, hb, hz⟩, h1, h2, h3, h4⟩
    · omega
    · have hil : (ints l).length = l.length := by simp [ints]
      have hH : Holds (Value.int .i64) w g 0 (ints l).toArray := by
        intro j hj
        have hj' : j < l.length := by simpa [ints] using hj
        rw [ints_get l j hj', Nat.zero_add]
        refine ⟨?_, unfz_frozen hb hz j (by omega)⟩
        obtain ⟨_, _, e0, _, hcell⟩ := hcs
        cases e0
        obtain ⟨g', e1, e2⟩ := hcell j (.int .i64 l[j]) (by simp [icells, hj'])
        cases e1; exact e2
      have hcall := AnyM.slices_Sort_int YtpkhghjmelgpeaaGreat.Sk.sortI g 0 cap (ints l) w hH (blk_lt hb) (by omega)
      rw [hil] at hcall
      refine hcall.mono ?_
      rintro e w' ⟨rfl, n, os, rfl⟩
      rw [show (ints l).mergeSort (fun x y => decide (x ≤ y)) = ints (l.mergeSort fun a b => decide (a ≤ b)) from int_sort l]
      obtain ⟨_, _, e0, hbk, _⟩ := hcs
      cases e0
      obtain ⟨_, e1, hbk⟩ := hbk hpos
      cases e1
      refine ⟨rfl, ?_, by rw [hbk]; exact grownBy_sortedI _⟩
      refine ⟨by simp [icells], .inr ⟨g, cap, _, rfl, hc0, ⟨fz, heap_sortedI _ hb, ?_⟩, h1, h2, by simp [putCells, h3], ?_⟩⟩
      · unfold unfz at hz ⊢
        rcases hz with hz | hz
        · exact .inl hz
        · exact .inr (by simpa [putCells] using hz)
      · rw [Nat.mul_one, ← List.length_mergeSort (le := fun a b => decide (a ≤ b)) l]
        exact take_putI cur _ (by rw [List.length_mergeSort]; omega)

theorem risked_unl {s : St} (i : Nat) {f : Fs} (hf : s.fs[i]? = some f) : riskedOf s.fs i = (f.uns.take 64).map (·.ord) := by unfold riskedOf; rw [hf]

def OrdE (w : World) (os : List Nat) (e : Ending) (w' : World) : Prop :=
  ∃ v', e = .returned v' ∧ Row w' 3 1 v' os.length (icells os) ∧ Below w.heap.size w w' ∧ (∀ k, blk v' = some k → w.heap.size ≤ k) ∧ os.length ≤ 4096
def OrdRel (w : World) (fs : List Fs) (fm n : Nat) (D : DataW Unit) (v : Value) (wr : World) : Prop :=
  ∃ (left : Lit → Bool) (cnt : Nat) (is : List Nat), wr.ranges Tryz.prog 9 Rp fm w.heap.size n D left cnt ∧ is.length + cnt ≤ 64 ∧ Went fs left is ∧ Row wr 3 1 v (is.flatMap (riskedOf fs)).length (icells (is.flatMap (riskedOf fs))) ∧ Below w.heap.size w wr ∧ ∀ q, blk v = some q → w.heap.size + 1 ≤ q
def OrdRel2 (w : World) (fm n : Nat) (D : DataW Unit) (left : Lit → Bool) (cnt : Nat) (zs l : List Nat) (i v : Value) (wr : World) : Prop :=
  ∃ k : Nat, k ≤ l.length ∧ i = .int .i64 k ∧ wr.ranges Tryz.prog 9 Rp fm w.heap.size n D left cnt ∧ Row wr 3 1 v (zs ++ l.take k).length (icells (zs ++ l.take k)) ∧ Below w.heap.size w wr ∧ ∀ q, blk v = some q → w.heap.size + 1 ≤ q
end Go.Proofs.YtpkhghjmelgpeaaGreat.Wk
