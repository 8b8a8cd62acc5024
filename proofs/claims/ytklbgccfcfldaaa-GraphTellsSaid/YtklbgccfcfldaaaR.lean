/- Rows: slices that own their blocks; what an append and a copy make of them. -/
import Derived.Below
import Derived.Deep.AppendSrc
import Derived.Laws.AppendOwn
import Derived.Laws.CopyOwn
import Derived.Lib.AppendZeros
import Derived.Lib.SlBuf
import Derived.Lib.Hide
import Derived.Lib.LazyBuf
set_option linter.unusedVariables false
namespace Go.Proofs.Ytklbgccfcfldaaa.Wk
open Go.RowKit

/-- The block of a slice that has room for anything. -/
def blk : Value → Option Nat
  | .slice (some a) _ (_ + 1) => some a.block
  | _ => none

/-- No cell of the row is marked. -/
def unfz (cur : Array Value) (fz : Nat × Nat) : Prop := fz.2 ≤ fz.1 ∨ cur.size ≤ fz.1

/-- v is a slice of n elements (of so many cells), which are xs; its block is its own from its beginning. -/
def Row (w : World) (e : TypeId) (size : Nat) (v : Value) (n : Nat) (xs : List Value) : Prop :=
  xs.length = n * size ∧
  ((n = 0 ∧ ∃ a, v = .slice a 0 0) ∨
   ∃ g cap cur, v = .slice (some ⟨g, 0, none⟩) n cap ∧ 0 < cap ∧ (∃ fz, w.heap[g]? = some (.cells cur e fz) ∧ unfz cur fz) ∧ n ≤ cap ∧ cap ≤ maxLen ∧ cur.size = cap * size ∧ cur.toList.take (n * size) = xs)

section
variable {P : Program} {w w' : World} {e : TypeId} {size : Nat} {v : Value} {n : Nat} {xs : List Value}

theorem Row.lt (h : Row w e size v n xs) : ∀ k, blk v = some k → k < w.heap.size := by
  intro k hk
  rcases h.2 with ⟨_, a, rfl⟩ | ⟨g, cap, cur, rfl, hc, ⟨fz, hg, hz⟩, _⟩
  · cases a <;> simp [blk] at hk
  · obtain ⟨c, rfl⟩ : ∃ c, cap = c + 1 := ⟨cap - 1, by omega⟩
    simp [blk] at hk; subst hk
    exact (Array.getElem?_eq_some_iff.1 hg).1

theorem Row.kept (h : Row w e size v n xs) (hb : ∀ k, blk v = some k → w'.heap[k]? = w.heap[k]?) : Row w' e size v n xs := by
  refine ⟨h.1, ?_⟩
  rcases h.2 with h0 | ⟨g, cap, cur, rfl, hc, ⟨fz, hg, hz⟩, rest⟩
  · exact .inl h0
  · refine .inr ⟨g, cap, cur, rfl, hc, ?_, rest⟩
    obtain ⟨c, rfl⟩ : ∃ c, cap = c + 1 := ⟨cap - 1, by omega⟩
    exact ⟨fz, by rw [hb g (by simp [blk])]; exact hg, hz⟩

theorem Row.grown {row : Option Nat} (h : Row w e size v n xs) (hg : w.grownBy w' row) (hne : blk v = none ∨ blk v ≠ row) : Row w' e size v n xs :=
  h.kept fun k hk => hg.block k (h.lt k hk) (by rcases hne with h | h <;> simp_all)

theorem Row.nil (w : World) (e : TypeId) (size : Nat) : Row w e size (.slice none 0 0) 0 [] := ⟨by simp, .inl ⟨rfl, none, rfl⟩⟩

/-- The cells of a row. -/
theorem Row.cells (h : Row w e size v n xs) : ∃ a c, v = .slice a n c ∧ (0 < n → ∃ g, a = some ⟨g, 0, none⟩ ∧ blk v = some g) ∧ ∀ j u, xs[j]? = some u → ∃ g, a = some ⟨g, 0, none⟩ ∧ w.cell? ⟨g, j, none⟩ = some u := by
  rcases h.2 with ⟨rfl, a, rfl⟩ | ⟨g, cap, cur, rfl, hc, ⟨fz, hg, hz⟩, h1, h2, h3, h4⟩
  · have : xs = [] := List.eq_nil_of_length_eq_zero (by rw [h.1]; omega)
    subst this
    exact ⟨a, 0, rfl, by omega, by simp⟩
  · obtain ⟨c, rfl⟩ : ∃ c, cap = c + 1 := ⟨cap - 1, by omega⟩
    refine ⟨_, _, rfl, fun _ => ⟨g, rfl, rfl⟩, fun j u hu => ⟨g, rfl, ?_⟩⟩
    rw [cell_of_row w g j cur e fz hg]
    rw [← h4, List.getElem?_take] at hu
    split at hu
    · simpa using hu
    · cases hu

theorem unfz_frozen {w : World} {g : Nat} {cur : Array Value} {e : TypeId} {fz : Nat × Nat} (hg : w.heap[g]? = some (.cells cur e fz)) (hz : unfz cur fz) (o : Nat) (ho : o < cur.size) : w.frozen? ⟨g, o, none⟩ = false := by
  obtain ⟨lo, hi⟩ := fz
  simp only [World.frozen?, hg]
  simp only [unfz] at hz
  by_cases h1 : lo ≤ o
  · have : ¬ o < hi := by omega
    simp [this]
  · simp [h1]

theorem setCells_heap {g : Nat} {e : TypeId} {fz : Nat × Nat} : ∀ (vs : List Value) (o : Nat) (w : World) (cur : Array Value), w.heap[g]? = some (.cells cur e fz) → o + vs.length ≤ cur.size →
    (w.setCells g o vs).heap[g]? = some (.cells (cur.toList.take o ++ vs ++ cur.toList.drop (o + vs.length)).toArray e fz)
  | [], o, w, cur, h, _ => by simpa [World.setCells] using h
  | v :: r, o, w, cur, h, ho => by
    have hs : (w.setCell ⟨g, o, none⟩ v).heap[g]? = some (.cells (cur.setIfInBounds o v) e fz) := by
      show (w.heap.modify g _)[g]? = _
      rw [Array.getElem?_modify, if_pos rfl, h]; rfl
    have ih := setCells_heap r (o + 1) _ _ hs (by simp at ho ⊢; omega)
    have e0 : w.setCells g o (v :: r) = (w.setCell ⟨g, o, none⟩ v).setCells g (o + 1) r := rfl
    rw [e0, ih]
    simp only [List.length_cons] at ho ⊢
    have hlt : o < cur.toList.length := by rw [Array.length_toList]; omega
    have e1 : (cur.setIfInBounds o v).toList.take (o + 1) = cur.toList.take o ++ [v] := by
      rw [Array.toList_setIfInBounds, List.take_add_one]
      simp [List.take_set_of_le]
      exact List.getElem?_set_self hlt
    have e2 : (cur.setIfInBounds o v).toList.drop (o + 1 + r.length) = cur.toList.drop (o + (r.length + 1)) := by
      rw [Array.toList_setIfInBounds, List.drop_set_of_lt (by omega)]; congr 1; omega
    rw [e1, e2]; simp

theorem setCells_grown (w : World) (g o : Nat) (vs : List Value) {row : Option Nat} (h : row = some g) : w.grownBy (w.setCells g o vs) row := by
  have hb : ∀ (vs : List Value) (o : Nat) (w : World), Below 0 w (w.setCells g o vs) := by
    intro vs
    induction vs with
    | nil => intro o w; exact Below.refl 0 w
    | cons v r ih => intro o w; exact ((Below.refl 0 w).setCell (p := ⟨g, o, none⟩) (Nat.zero_le _) v).trans (ih (o + 1) _)
  have ho : ∀ (vs : List Value) (o : Nat) (w : World) (k : Nat), k ≠ g → (w.setCells g o vs).heap[k]? = w.heap[k]? := by
    intro vs
    induction vs with
    | nil => intro o w k _; rfl
    | cons v r ih => intro o w k hk; exact (ih (o + 1) _ k hk).trans (Below.heap_setCell w ⟨g, o, none⟩ v k hk)
  exact ⟨(hb vs o w).os, (hb vs o w).tape, (hb vs o w).output, (hb vs o w).size, fun k _ hne => ho vs o w k (by intro e; subst e; exact hne h.symm)⟩

/-- An append of at least one element onto a row. -/
theorem Row.append (h : Row w e size v n xs) (t tx ty : TypeId) (i : TypeInfo) (z : Value) (bytes : Nat) (ht : P.underlying t = some (.slice e)) (hi : P.info? e = some i) (hz : i.zero = some z)
    (hsize : i.size = size) (hby : i.bytes = bytes) (hzs : z.cells.size = size)
    (x : Value) (m : Nat) (news : List Value) (hs : Src P size tx x m news w) (hm : 0 < m)
    (h63 : n + m ≤ maxLen) (hbytes : (n + m) * bytes ≤ 140737488355328) :
    ∃ v' w', (Builtin.append_ #[t, tx] ty #[v, x]).run P w = .ok v' w' ∧ Row w' e size v' (n + m) (xs ++ news) ∧ w.grownBy w' (blk v) ∧ (blk v' = blk v ∨ blk v' = some w.heap.size) := by
  subst hsize
  subst hby
  have hlen : (xs ++ news).length = (n + m) * i.size := by rw [List.length_append, h.1, hs.newsLen, Nat.add_mul]
  have hsmall : ((n + m : Nat) : Int) ≤ 9223372036854775807 := by simp only [maxLen] at h63; omega
  have hgrow : ∀ (b0 : Option Addr) (c0 : Nat), v = .slice b0 n c0 → c0 < n + m → (∀ j u, xs[j]? = some u → ∃ a, b0 = some a ∧ w.drew.cell? (a.add j) = some u) →
      ∃ v' w', (Builtin.append_ #[t, tx] ty #[v, x]).run P w = .ok v' w' ∧ Row w' e i.size v' (n + m) (xs ++ news) ∧ w.grownBy w' (blk v) ∧ (blk v' = blk v ∨ blk v' = some w.heap.size) := by
    intro b0 c0 hv hc hcell
    subst hv
    have hfc : (Builtin.firstCells i.size n (.slice b0 n c0)).run P w.drew = .ok xs.toArray w.drew := by
      cases b0 with
      | none =>
        have : xs = [] := by
          cases xs with
          | nil => rfl
          | cons y r => obtain ⟨a, ha, _⟩ := hcell 0 y rfl; cases ha
        subst this
        exact run_firstCells_none (P := P) w.drew i.size n n c0
      | some a => exact run_firstCells_some (P := P) w.drew i.size n a n c0 xs h.1 (fun j u hu => by obtain ⟨a', ha, hq⟩ := hcell j u hu; cases ha; exact hq)
    have hr := run_append_grow_src (P := P) w t tx ty e i z ht hi hz b0 n c0 xs hfc x m news hs hc hsmall (growslice_fits (by omega) hbytes)
    have hge := grownCap_ge w (n + m) c0 e
    have hle := grownCap_le_maxLen w (n + m) c0 e h63
    refine ⟨_, _, hr, ⟨hlen, .inr ⟨_, _, _, rfl, by omega, ⟨_, heap_alloc_new w.drew _, .inl (Nat.le_refl _)⟩, hge, hle, ?_, ?_⟩⟩, ?_, .inr ?_⟩
    · simp [size_zeroCells, hzs, hlen]
      rw [← Nat.add_mul]; congr 1; omega
    · rw [Array.toList_append, ← hlen]; exact List.take_left' rfl
    · exact ⟨rfl, rfl, rfl, by simp, fun k hk _ => Below.heap_alloc w.drew _ k hk⟩
    · obtain ⟨c, hc'⟩ : ∃ c, grownCap w (n + m) c0 e = c + 1 := ⟨grownCap w (n + m) c0 e - 1, by omega⟩
      rw [hc']; rfl
  rcases h.2 with ⟨rfl, a, rfl⟩ | ⟨g, cap, cur, rfl, hc, ⟨fz, hg, hfz⟩, hn, hcm, hcs, htake⟩
  · have : xs = [] := List.eq_nil_of_length_eq_zero (by rw [h.1]; omega)
    subst this
    exact hgrow a 0 rfl (by omega) (by simp)
  · by_cases hroom : n + m ≤ cap
    · have hfit : n * i.size + news.length ≤ cur.size := by rw [hs.newsLen, hcs, ← Nat.add_mul]; exact Nat.mul_le_mul_right _ hroom
      have hcell : ∀ j, j < news.length → (w.cell? ⟨g, 0 + n * i.size + j, none⟩).isSome = true := fun j hj => by
        rw [cell_of_row w g _ cur e fz hg]; simp; omega
      have hr := run_append_room_src (P := P) w t tx ty e i ht hi g 0 n cap x m news hs hroom hcell (fun j hj => unfz_frozen hg hfz _ (by omega))
      rw [Nat.zero_add] at hr
      have htl : (cur.toList.take (n * i.size)).length = n * i.size := by rw [htake, h.1]
      have hsz : (cur.toList.take (n * i.size) ++ news ++ cur.toList.drop (n * i.size + news.length)).toArray.size = cur.size := by
        simp only [List.size_toArray, List.length_append, List.length_drop, Array.length_toList, htl]; omega
      refine ⟨_, _, hr, ⟨hlen, .inr ⟨g, cap, _, rfl, hc, ⟨fz, setCells_heap news _ w cur hg hfit, by unfold unfz at hfz ⊢; rw [hsz]; exact hfz⟩, hroom, hcm, by rw [hsz]; exact hcs, ?_⟩⟩, ?_, .inl ?_⟩
      · rw [htake, ← hlen]; exact List.take_left' rfl
      · obtain ⟨c, rfl⟩ : ∃ c, cap = c + 1 := ⟨cap - 1, by omega⟩
        exact setCells_grown w g _ _ rfl
      · obtain ⟨c, rfl⟩ : ∃ c, cap = c + 1 := ⟨cap - 1, by omega⟩
        rfl
    · refine hgrow _ _ rfl (by omega) (fun j u hu => ⟨_, rfl, ?_⟩)
      obtain ⟨a, c, e1, _, hq⟩ := h.cells
      obtain ⟨g', e2, hq⟩ := hq j u hu
      cases e1; cases e2
      have : (⟨g, 0, none⟩ : Addr).add j = ⟨g, j, none⟩ := by unfold Addr.add; split <;> simp_all
      rw [this]; exact hq
end
end Go.Proofs.Ytklbgccfcfldaaa.Wk
