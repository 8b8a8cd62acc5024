/- Two rows compared, the document's way. -/
import Derived.Test.YtklbgccfcfldaaaF8
set_option linter.unusedVariables false
namespace Go.Proofs.Ytklbgccfcfldaaa.Wk
open Go.ChangeShapes Go.WideShapes Go.ChangeAt Go.RowKit Go.Shelf M

set_option maxRecDepth 100000 in
set_option maxHeartbeats 4000000 in
theorem sameNumbers_any (w : World) (v1 v2 : Value) (l1 l2 : List Int) (h1 : Row w 32 1 v1 l1.length (ocells l1)) (h2 : Row w 32 1 v2 l2.length (ocells l2)) (hl : l1.length ≤ 1099511627776 ∧ l2.length ≤ 1099511627776) :
    Calls Try.prog 11 #[v1, v2] w fun e w' => e = .returned (.bool (l1 == l2)) ∧ Below w.heap.size w w' := by
  obtain ⟨a1, c1, e1, -, x1⟩ := h1.cells
  obtain ⟨a2, c2, e2, -, x2⟩ := h2.cells
  obtain ⟨n1, hn1⟩ : ∃ n1, l1.length = n1 := ⟨_, rfl⟩
  obtain ⟨n2, hn2⟩ : ∃ n2, l2.length = n2 := ⟨_, rfl⟩
  rw [hn1] at e1 hl
  rw [hn2] at e2 hl
  have HX1 := Lib.hid x1
  have HX2 := Lib.hid x2
  have HR := Lib.hid (And.intro h1 h2)
  clear h1 h2 x1 x2
  subst e1 e2
  by_cases hne : n1 = n2
  · subst hne
    have i1 : ((n1 : Int) != (n1 : Int)) = false := by simp
    go_enter Try.func11, Try.ntmps11
    go_wp2
    go_loopw [5] (fun iv wr => ∃ k : Nat, k ≤ n1 ∧ iv = .int .i64 k ∧ l1.take k = l2.take k ∧ Below w.heap.size w wr) (fun iv _ => n1 - (intOf iv).toNat)
    case atStart => exact ⟨0, Nat.zero_le _, rfl, rfl, Below.refl _ _⟩
    case round =>
      obtain ⟨k, hk, rfl, ht, hb⟩ := hrel
      by_cases hlt : k < n1
      · have hlt2 : (k : Int) < n1 := by omega
        obtain ⟨x, hx⟩ : ∃ x, l1[k]? = some x := ⟨l1[k]'(by omega), by simp⟩
        obtain ⟨y, hy⟩ : ∃ y, l2[k]? = some y := ⟨l2[k]'(by omega), by simp⟩
        obtain ⟨g1, r1, q1⟩ := HX1.out k (.int .u64 x) (by simp [ocells, hx])
        obtain ⟨g2, r2, q2⟩ := HX2.out k (.int .u64 y) (by simp [ocells, hy])
        have p1 : wr.cell? ⟨g1, k, none⟩ = some (.int .u64 x) := (cell_of_heap (hb.block g1 (cell_lt q1)) k).trans q1
        have p2 : wr.cell? ⟨g2, k, none⟩ = some (.int .u64 y) := (cell_of_heap (hb.block g2 (cell_lt q2)) k).trans q2
        subst r1 r2
        clear q1 q2
        by_cases hxy : x = y
        · subst hxy
          have i2 : (x != x) = false := by simp
          go_wp2
          go_quiet (fail)
          go_wp2
          go_roundw
          case rel => exact ⟨k + 1, by omega, by simp, take_succ2 hx hy ht, hb.trans (Joins.below_draws _ _ _)⟩
          case measure => simp only [intOf]; omega
        · have hf := take_ne hx hy hxy
          have i2 : (x != y) = true := by simpa using hxy
          go_wp2
          go_quiet (fail)
          go_wp2
          go_ret
          exact ⟨by rw [hf]; rfl, hb.trans (Joins.below_draws _ _ _)⟩
      · have hke : k = n1 := by omega
        subst hke
        have hf := take_all (hn1.trans hn2.symm) (by rw [hn1]; exact ht)
        go_wp2
        go_ret
        exact ⟨by rw [hf]; rfl, hb⟩
  · have hf := len_ne (l1 := l1) (l2 := l2) (by omega)
    have i1 : ((n1 : Int) != (n2 : Int)) = true := by simp; omega
    have i2 : ¬ (n1 : Int) = n2 := by omega
    rw [hf]
    go_enter Try.func11, Try.ntmps11
    go_wp2
    go_ret
    exact ⟨rfl, Below.refl _ _⟩

set_option maxRecDepth 100000 in
set_option maxHeartbeats 4000000 in
theorem sameOops_any (w : World) (v1 v2 : Value) (l1 l2 : List Int) (h1 : Row w 33 1 v1 l1.length (ocells l1)) (h2 : Row w 33 1 v2 l2.length (ocells l2)) (hl : l1.length ≤ 1099511627776 ∧ l2.length ≤ 1099511627776) :
    Calls Try.prog 19 #[v1, v2] w fun e w' => e = .returned (.bool (l1 == l2)) ∧ Below w.heap.size w w' := by
  obtain ⟨a1, c1, e1, -, x1⟩ := h1.cells
  obtain ⟨a2, c2, e2, -, x2⟩ := h2.cells
  obtain ⟨n1, hn1⟩ : ∃ n1, l1.length = n1 := ⟨_, rfl⟩
  obtain ⟨n2, hn2⟩ : ∃ n2, l2.length = n2 := ⟨_, rfl⟩
  rw [hn1] at e1 hl
  rw [hn2] at e2 hl
  have HX1 := Lib.hid x1
  have HX2 := Lib.hid x2
  have HR := Lib.hid (And.intro h1 h2)
  clear h1 h2 x1 x2
  subst e1 e2
  by_cases hne : n1 = n2
  · subst hne
    have i1 : ((n1 : Int) != (n1 : Int)) = false := by simp
    go_enter Try.func19, Try.ntmps19
    go_wp2
    go_loopw [5] (fun iv wr => ∃ k : Nat, k ≤ n1 ∧ iv = .int .i64 k ∧ l1.take k = l2.take k ∧ Below w.heap.size w wr) (fun iv _ => n1 - (intOf iv).toNat)
    case atStart => exact ⟨0, Nat.zero_le _, rfl, rfl, Below.refl _ _⟩
    case round =>
      obtain ⟨k, hk, rfl, ht, hb⟩ := hrel
      by_cases hlt : k < n1
      · have hlt2 : (k : Int) < n1 := by omega
        obtain ⟨x, hx⟩ : ∃ x, l1[k]? = some x := ⟨l1[k]'(by omega), by simp⟩
        obtain ⟨y, hy⟩ : ∃ y, l2[k]? = some y := ⟨l2[k]'(by omega), by simp⟩
        obtain ⟨g1, r1, q1⟩ := HX1.out k (.int .u64 x) (by simp [ocells, hx])
        obtain ⟨g2, r2, q2⟩ := HX2.out k (.int .u64 y) (by simp [ocells, hy])
        have p1 : wr.cell? ⟨g1, k, none⟩ = some (.int .u64 x) := (cell_of_heap (hb.block g1 (cell_lt q1)) k).trans q1
        have p2 : wr.cell? ⟨g2, k, none⟩ = some (.int .u64 y) := (cell_of_heap (hb.block g2 (cell_lt q2)) k).trans q2
        subst r1 r2
        clear q1 q2
        by_cases hxy : x = y
        · subst hxy
          have i2 : (x != x) = false := by simp
          go_wp2
          go_quiet (fail)
          go_wp2
          go_roundw
          case rel => exact ⟨k + 1, by omega, by simp, take_succ2 hx hy ht, hb.trans (Joins.below_draws _ _ _)⟩
          case measure => simp only [intOf]; omega
        · have hf := take_ne hx hy hxy
          have i2 : (x != y) = true := by simpa using hxy
          go_wp2
          go_quiet (fail)
          go_wp2
          go_ret
          exact ⟨by rw [hf]; rfl, hb.trans (Joins.below_draws _ _ _)⟩
      · have hke : k = n1 := by omega
        subst hke
        have hf := take_all (hn1.trans hn2.symm) (by rw [hn1]; exact ht)
        go_wp2
        go_ret
        exact ⟨by rw [hf]; rfl, hb⟩
  · have hf := len_ne (l1 := l1) (l2 := l2) (by omega)
    have i1 : ((n1 : Int) != (n2 : Int)) = true := by simp; omega
    have i2 : ¬ (n1 : Int) = n2 := by omega
    rw [hf]
    go_enter Try.func19, Try.ntmps19
    go_wp2
    go_ret
    exact ⟨rfl, Below.refl _ _⟩
end Go.Proofs.Ytklbgccfcfldaaa.Wk
