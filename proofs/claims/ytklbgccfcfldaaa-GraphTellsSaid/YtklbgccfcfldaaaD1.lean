/- New: an empty heap. -/
import Derived.Test.YtklbgccfcfldaaaC1
import Derived.Test.YtklbgccfcfldaaaD0
set_option linter.unusedVariables false
namespace Go.Proofs.Ytklbgccfcfldaaa.Wk
open Go.ChangeShapes Go.WideShapes Go.ChangeAt Go.RowKit M

set_option maxHeartbeats 1000000 in
theorem hwithin_any (n a b : Int) (w : World) :
    Calls Try.prog 40 #[.int .i64 n, .int .i64 a, .int .i64 b] w fun e w' => e = .returned (.bool (decide (a ≤ n ∧ n ≤ b))) ∧ w = w' := by
  go_enter Try.func40, Try.ntmps40
  go_wp2
  all_goals
    go_ret
    exact ⟨ret_bool (by rw [Bool.eq_iff_iff]; simp <;> omega), rfl⟩
/-- Sizes that may be. -/
structure Sz (ed su bo pi te : Nat) : Prop where
  hed : 64 ≤ ed ∧ ed ≤ 65536
  hsu : 16 ≤ su ∧ su ≤ ed
  hbo : 64 ≤ bo ∧ bo ≤ 1048576
  hpi : pi ≤ 65536
  hte : te ≤ 15
abbrev szV (ed su bo pi te : Nat) : Value := .agg #[.int .i64 ed, .int .i64 su, .int .i64 bo, .int .i64 pi, .int .i64 te]
set_option maxHeartbeats 2000000 in
set_option maxRecDepth 100000 in
theorem fits_y (ed su bo pi te : Nat) (h : Sz ed su bo pi te) (w : World) :
    Calls Try.prog 20 #[szV ed su bo pi te] w fun e w' => e = .returned (.bool true) ∧ Below w.heap.size w w' := by
  obtain ⟨⟨h1, h2⟩, ⟨h3, h4⟩, ⟨h5, h6⟩, h7, h8⟩ := h
  have t1 : (decide ((64 : Int) ≤ (ed : Int)) && decide ((ed : Int) ≤ 65536)) = true := by simp; omega
  have t2 : (decide ((16 : Int) ≤ (su : Int)) && decide ((su : Int) ≤ (ed : Int))) = true := by simp; omega
  have t3 : (decide ((64 : Int) ≤ (bo : Int)) && decide ((bo : Int) ≤ 1048576)) = true := by simp; omega
  have t4 : (decide ((0 : Int) ≤ (pi : Int)) && decide ((pi : Int) ≤ 65536)) = true := by simp; omega
  have t5 : (decide ((0 : Int) ≤ (te : Int)) && decide ((te : Int) ≤ 15)) = true := by simp; omega
  have a1 : (64 : Int) ≤ (ed : Int) := by omega
  have a2 : (ed : Int) ≤ 65536 := by omega
  have a3 : (16 : Int) ≤ (su : Int) := by omega
  have a4 : (su : Int) ≤ (ed : Int) := by omega
  have a5 : (64 : Int) ≤ (bo : Int) := by omega
  have a6 : (bo : Int) ≤ 1048576 := by omega
  have a7 : (pi : Int) ≤ 65536 := by omega
  have a8 : (te : Int) ≤ 15 := by omega
  go_enter Try.func20, Try.ntmps20
  go_wp2_with (go_at_call 40; refine (hwithin_any _ _ _ _).mono ?_; rintro e w' ⟨rfl, rfl⟩)
  go_ret
  exact ⟨rfl, by go_grown⟩

set_option maxHeartbeats 2000000 in
set_option maxRecDepth 100000 in
theorem emptyArea_any (b e_ : Int) (w : World) :
    Calls Try.prog 21 #[.int .i64 b, .int .i64 e_] w fun e w' => ∃ m, e = .returned (.agg #[.int .i64 b, .int .i64 b, .int .i64 e_, .map (some m)]) ∧ w.heap.size ≤ m ∧ w'.heap[m]? = some (.map #[] 0) ∧ Below w.heap.size w w' := by
  have hmm := @run_makeMap Try.prog
  go_enter Try.func21, Try.ntmps21
  go_wp2
  refine bodyPost_ret (v := .agg #[.int .i64 b, .int .i64 b, .int .i64 e_, .map (some (w.heap.size + 1))]) (by simp [results, Try.results21, go_sem]) rfl ⟨w.heap.size + 1, rfl, Nat.le_succ _, ?_, ((Below.refl _ _).alloc (Nat.le_refl _) _).alloc (by simp) _⟩
  have := heap_alloc_new (w.alloc (.cells #[.int .i64 b, .int .i64 b, .int .i64 e_, .map (some (w.heap.size + 1))] 61)) (.map #[] 0)
  simpa using this

/-- Where the spaces begin. -/
def bg (ed su bo pi k : Nat) : Nat :=
  if k = 0 then 2 else if k = 1 then 2 else if k = 2 then 2 + ed else if k = 3 then 2 + ed + su else if k = 4 then 2 + ed + su + su else if k = 5 then 2 + ed + su + su + (bo + ed + 2 * su) else newN ed su bo pi
def nc (ed su bo pi : Nat) (fb : Nat → Nat) (k i : Nat) : Value :=
  if 2 ≤ i ∧ i < 26 ∧ (i - 2) / 4 < k then
    (if (i - 2) % 4 = 2 then .int .i64 (bg ed su bo pi ((i - 2) / 4 + 1)) else if (i - 2) % 4 = 3 then .map (some (fb ((i - 2) / 4))) else .int .i64 (bg ed su bo pi ((i - 2) / 4)))
  else zc i
/-- So many spaces have been laid. -/
structure Nw (w : World) (ed su bo pi p : Nat) (fb : Nat → Nat) (k : Nat) (X : World) : Prop where
  ge : w.heap.size ≤ p
  cell : X.heap[p]? = some (.cells (Array.ofFn (n := 4192) fun i => nc ed su bo pi fb k i) 71 (0, 0))
  map : ∀ j, j < k → X.heap[fb j]? = some (.map #[] 0) ∧ p < fb j
  inj : ∀ i j, i < k → j < k → fb i = fb j → i = j
  bel : Below w.heap.size w X
theorem zc_eq : zOf Try.prog 71 = Array.ofFn (n := 4192) fun i => zc i := by
  apply Array.ext'
  rw [zHeap_list, Array.toList_ofFn]
  apply List.ext_getElem?
  intro i
  rw [List.getElem?_ofFn, List.getElem?_map]
  by_cases h : i < 4192 <;> simp [h]
theorem nc_0 (ed su bo pi : Nat) (fb : Nat → Nat) : (Array.ofFn (n := 4192) fun i => zc i) = Array.ofFn (n := 4192) fun i => nc ed su bo pi fb 0 i := by
  congr 1; funext i; unfold nc; rw [if_neg (by omega)]
theorem set4 {X : World} {b o : Nat} {e : TypeId} {C C' : Nat → Value} {v0 v1 v2 v3 : Value} (h : X.heap[b]? = some (.cells (Array.ofFn (n := 4192) fun i => C i) e (0, 0)))
    (hc : ∀ j, j < 4192 → C' j = if j = o then v0 else if j = o + 1 then v1 else if j = o + 2 then v2 else if j = o + 3 then v3 else C j) :
    ((((X.setCell ⟨b, o, none⟩ v0).setCell ⟨b, o + 1, none⟩ v1).setCell ⟨b, o + 2, none⟩ v2).setCell ⟨b, o + 3, none⟩ v3).heap[b]? = some (.cells (Array.ofFn (n := 4192) fun i => C' i) e (0, 0)) := by
  have s1 := blk_set h o v0
  rw [ofFn_set (n := 4192) C (fun j => if j = o then v0 else C j) o v0 (fun j _ => rfl)] at s1
  have s2 := blk_set s1 (o + 1) v1
  rw [ofFn_set (n := 4192) (fun j => if j = o then v0 else C j) (fun j => if j = o + 1 then v1 else if j = o then v0 else C j) (o + 1) v1 (fun j _ => rfl)] at s2
  have s3 := blk_set s2 (o + 2) v2
  rw [ofFn_set (n := 4192) (fun j => if j = o + 1 then v1 else if j = o then v0 else C j) (fun j => if j = o + 2 then v2 else if j = o + 1 then v1 else if j = o then v0 else C j) (o + 2) v2 (fun j _ => rfl)] at s3
  have s4 := blk_set s3 (o + 3) v3
  rw [ofFn_set (n := 4192) (fun j => if j = o + 2 then v2 else if j = o + 1 then v1 else if j = o then v0 else C j) C' (o + 3) v3 (fun j hj => by
    rw [hc j hj]
    by_cases q0 : j = o
    · subst q0; simp
    · by_cases q1 : j = o + 1
      · subst q1; simp
      · by_cases q2 : j = o + 2
        · subst q2; simp
        · simp [q0, q1, q2])] at s4
  exact s4
theorem Nw.below {w X Y : World} {ed su bo pi p k : Nat} {fb : Nat → Nat} (h : Nw w ed su bo pi p fb k X) (b : Below X.heap.size X Y) : Nw w ed su bo pi p fb k Y :=
  ⟨h.ge, (b.block p (blk_lt h.cell)).trans h.cell, fun j hj => ⟨(b.block _ (blk_lt (h.map j hj).1)).trans (h.map j hj).1, (h.map j hj).2⟩, h.inj, h.bel.trans (b.mono h.bel.size)⟩
theorem Nw.at {w X : World} {ed su bo pi p k : Nat} {fb : Nat → Nat} (h : Nw w ed su bo pi p fb k X) (i : Nat) (hi : i < 4192) : X.cell? ⟨p, i, none⟩ = some (nc ed su bo pi fb k i) ∧ X.frozen? ⟨p, i, none⟩ = false := by
  refine ⟨?_, frozen_blk h.cell i⟩
  rw [cell_blk h.cell, Array.getElem?_ofFn]; simp [hi]
/-- One space more. -/
theorem Nw.step {w X : World} {ed su bo pi p k m : Nat} {fb : Nat → Nat} (h : Nw w ed su bo pi p fb k X) (hk : k < 6) (hm : X.heap[m]? = some (.map #[] 0)) (hpm : p < m) (hmn : ∀ j, j < k → fb j ≠ m) :
    Nw w ed su bo pi p (upd fb k m) (k + 1) ((((X.setCell ⟨p, 2 + 4 * k, none⟩ (.int .i64 (bg ed su bo pi k))).setCell ⟨p, 2 + 4 * k + 1, none⟩ (.int .i64 (bg ed su bo pi k))).setCell ⟨p, 2 + 4 * k + 2, none⟩ (.int .i64 (bg ed su bo pi (k + 1)))).setCell ⟨p, 2 + 4 * k + 3, none⟩ (.map (some m))) := by
  have hoth : ∀ b, b ≠ p → ((((X.setCell ⟨p, 2 + 4 * k, none⟩ (.int .i64 (bg ed su bo pi k))).setCell ⟨p, 2 + 4 * k + 1, none⟩ (.int .i64 (bg ed su bo pi k))).setCell ⟨p, 2 + 4 * k + 2, none⟩ (.int .i64 (bg ed su bo pi (k + 1)))).setCell ⟨p, 2 + 4 * k + 3, none⟩ (.map (some m))).heap[b]? = X.heap[b]? := fun b hb => by
    rw [blk_set_other _ _ _ _ _ hb, blk_set_other _ _ _ _ _ hb, blk_set_other _ _ _ _ _ hb, blk_set_other _ _ _ _ _ hb]
  refine ⟨h.ge, set4 h.cell ?_, ?_, ?_, ?_⟩
  · intro j hj
    unfold nc
    by_cases q : 2 ≤ j ∧ j < 26 ∧ (j - 2) / 4 = k
    · have e1 : 2 ≤ j ∧ j < 26 ∧ (j - 2) / 4 < k + 1 := by omega
      have e2 : ¬ (2 ≤ j ∧ j < 26 ∧ (j - 2) / 4 < k) := by omega
      rw [if_pos e1, if_neg e2, q.2.2, upd_same]
      rcases (by omega : (j - 2) % 4 = 0 ∨ (j - 2) % 4 = 1 ∨ (j - 2) % 4 = 2 ∨ (j - 2) % 4 = 3) with r | r | r | r
      · rw [if_neg (by omega), if_neg (by omega), if_pos (by omega)]
      · rw [if_neg (by omega), if_neg (by omega), if_neg (by omega), if_pos (by omega)]
      · rw [if_pos r, if_neg (by omega), if_neg (by omega), if_pos (by omega)]
      · rw [if_neg (by omega), if_pos r, if_neg (by omega), if_neg (by omega), if_neg (by omega), if_pos (by omega)]
    · have n0 : ¬ j = 2 + 4 * k := by omega
      have n1 : ¬ j = 2 + 4 * k + 1 := by omega
      have n2 : ¬ j = 2 + 4 * k + 2 := by omega
      have n3 : ¬ j = 2 + 4 * k + 3 := by omega
      rw [if_neg n0, if_neg n1, if_neg n2, if_neg n3]
      by_cases q2 : 2 ≤ j ∧ j < 26 ∧ (j - 2) / 4 < k
      · rw [if_pos (by omega), if_pos q2, upd_other _ _ _ _ (by omega)]
      · rw [if_neg (by omega), if_neg q2]
  · intro j hj
    by_cases e : j = k
    · subst e; rw [upd_same]; exact ⟨(hoth m (by omega)).trans hm, hpm⟩
    · rw [upd_other _ _ _ _ e]
      have := h.map j (by omega)
      exact ⟨(hoth _ (by omega)).trans this.1, this.2⟩
  · intro i j hi hj e
    unfold upd at e
    by_cases e1 : i = k <;> by_cases e2 : j = k
    · omega
    · rw [if_pos e1, if_neg e2] at e; exact absurd e.symm (hmn j (by omega))
    · rw [if_neg e1, if_pos e2] at e; exact absurd e (hmn i (by omega))
    · rw [if_neg e1, if_neg e2] at e; exact h.inj i j (by omega) (by omega) e
  · have hge := h.ge
    exact (((h.bel.setCell hge _).setCell hge _).setCell hge _).setCell hge _
end Go.Proofs.Ytklbgccfcfldaaa.Wk
