/- Plain facts on chunks: one byte of a chunk's tag, content or sum changed is told by its sum. -/
import Derived.Test.YtmfbjmffodnaeaaP1
set_option linter.unusedVariables false
namespace Go.Proofs.Ytmfbjmffodnaeaa.Wk
open Go.ChangeShapes Go.WideShapes Go.ChangeAt Go.RowKit M

theorem set_split {l : List UInt8} {i : Nat} {y : UInt8} (h : i < l.length) : l.set i y = l.take i ++ y :: l.drop (i + 1) := by
  rw [List.set_eq_take_append_cons_drop, if_pos h]
theorem get_split {l : List UInt8} {i : Nat} (h : i < l.length) : l = l.take i ++ l[i] :: l.drop (i + 1) := by
  rw [← List.drop_eq_getElem_cons h, List.take_append_drop]
theorem sum_set (l m n : List UInt8) (i : Nat) (y : UInt8) (h : i < m.length) (hy : m[i]? ≠ some y) : sumL (l ++ m.set i y ++ n) ≠ sumL (l ++ m ++ n) := by
  intro he
  rw [set_split h] at he
  have hm := get_split h
  have e1 : l ++ m ++ n = (l ++ m.take i) ++ m[i] :: (m.drop (i + 1) ++ n) := by
    have e2 : l ++ m ++ n = l ++ (m.take i ++ m[i] :: m.drop (i + 1)) ++ n := by rw [← hm]
    rw [e2]; simp only [List.append_assoc, List.cons_append]
  have e3 : l ++ (m.take i ++ y :: m.drop (i + 1)) ++ n = (l ++ m.take i) ++ y :: (m.drop (i + 1) ++ n) := by simp
  rw [e1, e3] at he
  have := sum_harm _ _ _ _ he
  rw [List.getElem?_eq_getElem h, this] at hy
  exact hy rfl
theorem all_set (l : List UInt8) (i : Nat) (y : UInt8) (h : l.all okc = true) (hy : okc y = true) : (l.set i y).all okc = true := by
  rw [List.all_eq_true] at *
  intro x hx
  rcases List.mem_or_eq_of_mem_set hx with h1 | h1
  · exact h x h1
  · rw [h1]; exact hy

theorem harm (t c : ByteArray) (h : chunkE t c = 0) (i : Nat) (hi : i < 12 + c.size) (hi4 : i < 4 ∨ 8 ≤ i) (y : UInt8) (r : ByteArray) (hr : r.data.toList = (chunkS t c).data.toList.set i y)
    (hy : (chunkS t c).data.toList[i]? ≠ some y) (hok : i < 4 → okc y = true) : chE r = 22 := by
  obtain ⟨h1, h2, h3⟩ := chunkS_ok t c h
  have h4 := tagB_size t h1
  have hC : (chunkS t c).data.toList = t.data.toList ++ (low 4 c.size ++ (c.data.toList ++ low 4 (sumL (t.data.toList ++ c.data.toList)))) := by
    rw [h3]; unfold chunkL; simp
  have hh : high (low 4 c.size) = c.data.toList.length := by rw [toL_len]; exact high_low 4 _ (by omega)
  have lt4 : t.data.toList.length = 4 := by rw [toL_len]; exact h4
  have lc : c.data.toList.length = c.size := toL_len c
  have hsum : high (low 4 (sumL (t.data.toList ++ c.data.toList))) = sumL (t.data.toList ++ c.data.toList) := high_low 4 _ (by have := sumL_lt (t.data.toList ++ c.data.toList); omega)
  have ll1 : (low 4 c.size).length = 4 := low_len _ _
  have ll2 : (low 4 (sumL (t.data.toList ++ c.data.toList))).length = 4 := low_len _ _
  rw [hC] at hr hy
  by_cases c1 : i < 4
  · have hr1 : r.data.toList = t.data.toList.set i y ++ (low 4 c.size ++ (c.data.toList ++ (low 4 (sumL (t.data.toList ++ c.data.toList)) ++ []))) := by
      rw [hr, List.set_append_left _ _ (by omega)]; simp
    rw [List.getElem?_append_left (by omega)] at hy
    obtain ⟨p1, p2, p3, p4, p5⟩ := parts r _ _ _ _ _ hr1 (by rw [List.length_set]; exact lt4) ll1 ll2 hh
    refine chE_22 r ?_ (by omega) (by omega) ?_
    · rw [p1]; unfold tagB
      have ha : t.data.toList.all okc = true := by unfold tagB at h1; simp at h1; simpa using h1.2
      have : (⟨(t.data.toList.set i y).toArray⟩ : ByteArray).size = 4 := by rw [← toL_len, toL_mk, List.length_set]; exact lt4
      rw [this, toL_mk, all_set _ i y ha (hok c1)]; rfl
    · rw [p5, p1, p4, hsum]
      unfold sum2
      rw [toL_mk, toL_mk]
      have := sum_set [] t.data.toList c.data.toList i y (by omega) hy
      simp only [List.nil_append] at this
      exact fun e => this e.symm
  · have c8 : 8 ≤ i := by omega
    rw [List.set_append_right _ _ (by omega), lt4, List.set_append_right _ _ (by omega), ll1] at hr
    rw [List.getElem?_append_right (by omega), lt4, List.getElem?_append_right (by omega), ll1] at hy
    by_cases c2 : i - 4 - 4 < c.size
    · rw [List.set_append_left _ _ (by omega)] at hr
      rw [List.getElem?_append_left (by omega)] at hy
      have hr1 : r.data.toList = t.data.toList ++ (low 4 c.size ++ (c.data.toList.set (i - 4 - 4) y ++ (low 4 (sumL (t.data.toList ++ c.data.toList)) ++ []))) := by rw [hr]; simp
      obtain ⟨p1, p2, p3, p4, p5⟩ := parts r _ _ _ _ _ hr1 lt4 ll1 ll2 (by rw [List.length_set]; exact hh)
      rw [List.length_set] at p2 p3
      refine chE_22 r (by rw [p1, str_back]; exact h1) (by omega) (by omega) ?_
      rw [p5, p1, p4, hsum]
      unfold sum2
      rw [toL_mk, toL_mk]
      have := sum_set t.data.toList c.data.toList [] (i - 4 - 4) y (by omega) hy
      simp only [List.append_nil] at this
      exact fun e => this e.symm
    · rw [List.set_append_right _ _ (by omega), lc] at hr
      rw [List.getElem?_append_right (by omega), lc] at hy
      have hr1 : r.data.toList = t.data.toList ++ (low 4 c.size ++ (c.data.toList ++ ((low 4 (sumL (t.data.toList ++ c.data.toList))).set (i - 4 - 4 - c.size) y ++ []))) := by rw [hr]; simp
      obtain ⟨p1, p2, p3, p4, p5⟩ := parts r _ _ _ _ _ hr1 lt4 ll1 (by rw [List.length_set]; exact ll2) hh
      refine chE_22 r (by rw [p1, str_back]; exact h1) (by omega) (by omega) ?_
      rw [p5, p1, p4]
      unfold sum2
      rw [toL_mk, toL_mk]
      intro e
      have e2 := high_inj _ _ (by rw [List.length_set]) (e.trans hsum.symm)
      have hj : i - 4 - 4 - c.size < (low 4 (sumL (t.data.toList ++ c.data.toList))).length := by omega
      have := List.getElem?_set_self (l := low 4 (sumL (t.data.toList ++ c.data.toList))) (i := i - 4 - 4 - c.size) (a := y) hj
      rw [e2] at this
      exact hy this

/-- The text with one byte changed, as the law makes it. -/
def chg (C : ByteArray) (i : Nat) (y : UInt8) : ByteArray := C.extract 0 i ++ ⟨#[y]⟩ ++ C.extract (i + 1) C.size
theorem chg_list (C : ByteArray) (i : Nat) (y : UInt8) (h : i < C.size) : (chg C i y).data.toList = C.data.toList.set i y := by
  have hl : i < C.data.toList.length := by rw [toL_len]; exact h
  rw [set_split hl]
  have e : (chg C i y).data.toList = (C.extract 0 i).data.toList ++ (y :: (C.extract (i + 1) C.size).data.toList) := by unfold chg; simp
  rw [e, toL_ext, toL_ext, List.drop_zero, Nat.sub_zero]
  congr 2
  exact List.take_of_length_le (by simp)
theorem chg_size (C : ByteArray) (i : Nat) (y : UInt8) (h : i < C.size) : (chg C i y).size = C.size := by
  rw [← toL_len, chg_list C i y h, List.length_set, toL_len]
theorem harm_next (t c : ByteArray) (h : chunkE t c = 0) (i : Nat) (hi : i < (chunkS t c).size) (hi4 : i < 4 ∨ 8 ≤ i) (y : UInt8) (hy : (chunkS t c)[i] ≠ y) (hok : i < 4 → okc y = true) :
    nV (chg (chunkS t c) i y) 0 = .tuple #[.string ⟨#[]⟩, .string ⟨#[]⟩, .int .i64 0, .int .i64 22] := by
  have hs := chunkS_size t c h
  have hl := chg_list _ i y hi
  have hz := chg_size _ i y hi
  have e := harm t c h i (by omega) hi4 y _ hl (by
    rw [List.getElem?_eq_getElem (by rw [toL_len]; exact hi)]
    intro e; injection e with e
    exact hy e) hok
  have hr : nR (chg (chunkS t c) i y) 0 = chg (chunkS t c) i y := by
    apply toL_inj
    unfold nR; rw [toL_ext]
    simp only [Int.toNat_zero, List.drop_zero, Nat.sub_zero]
    exact List.take_of_length_le (by rw [toL_len]; omega)
  exact nV_ch _ 0 (lackE_ok _ _ _ (by omega) (by omega) (by omega)) 22 (by rw [hr]; exact e) (by decide)
end Go.Proofs.Ytmfbjmffodnaeaa.Wk
