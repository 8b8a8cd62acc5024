/- Plain facts on chunks: what is written is read back; what is read has one form; one byte changed is found. -/
import Derived.Test.YtmfbjmffodnaeaaW9
set_option linter.unusedVariables false
namespace Go.Proofs.Ytmfbjmffodnaeaa.Wk
open Go.ChangeShapes Go.WideShapes Go.ChangeAt Go.RowKit M

theorem toL_inj {a b : ByteArray} (h : a.data.toList = b.data.toList) : a = b := by
  apply ByteArray.ext; exact Array.toList_inj.1 h
theorem toL_ext (s : ByteArray) (i j : Nat) : (s.extract i j).data.toList = (s.data.toList.drop i).take (j - i) := by
  simp [ByteArray.data_extract, Array.toList_extract, List.extract]
theorem toL_len (s : ByteArray) : s.data.toList.length = s.size := by simp
theorem toL_mk (l : List UInt8) : (⟨l.toArray⟩ : ByteArray).data.toList = l := rfl

/-- A text that is made of five parts, taken apart. -/
theorem parts (r : ByteArray) (t lo c su z : List UInt8) (h : r.data.toList = t ++ (lo ++ (c ++ (su ++ z)))) (ht : t.length = 4) (hlo : lo.length = 4) (hsu : su.length = 4) (hL : high lo = c.length) :
    r.extract 0 4 = ⟨t.toArray⟩ ∧ cL r = c.length ∧ r.size = 12 + c.length + z.length ∧ cC r = ⟨c.toArray⟩ ∧ cS r = high su := by
  have hsz : r.size = 12 + c.length + z.length := by rw [← toL_len, h]; simp only [List.length_append]; omega
  have d4 : r.data.toList.drop 4 = lo ++ (c ++ (su ++ z)) := by rw [h]; exact List.drop_left' ht
  have d8 : r.data.toList.drop 8 = c ++ (su ++ z) := by
    rw [show (8 : Nat) = 4 + 4 from rfl, ← List.drop_drop, d4]; exact List.drop_left' hlo
  have e0 : r.extract 0 4 = ⟨t.toArray⟩ := by
    apply toL_inj
    rw [toL_ext, toL_mk, List.drop_zero, h]; exact List.take_left' ht
  have e1 : cL r = c.length := by
    unfold cL highB; rw [toL_ext, d4, List.take_left' (by rw [hlo])]; exact hL
  have eR : (cR r).data.toList = c ++ (su ++ z) := by
    unfold cR; rw [toL_ext, d8]
    exact List.take_of_length_le (by rw [hsz]; simp only [List.length_append]; omega)
  have e2 : cC r = ⟨c.toArray⟩ := by
    apply toL_inj
    unfold cC; rw [toL_ext, eR, toL_mk, List.drop_zero, e1]; exact List.take_left' (by omega)
  have e3 : cS r = high su := by
    unfold cS highB; rw [toL_ext, eR, e1, List.drop_left' rfl, List.take_left' (by omega)]
  exact ⟨e0, e1, hsz, e2, e3⟩
theorem tagB_mk (t : ByteArray) : tagB ⟨t.data.toList.toArray⟩ = tagB t := by rw [str_back]
theorem chunkS_ok (t c : ByteArray) (h : chunkE t c = 0) : tagB t = true ∧ c.size ≤ 16777216 ∧ chunkS t c = ⟨(chunkL t.data.toList c.data.toList).toArray⟩ := by
  unfold chunkE at h
  cases ht : tagB t
  · rw [ht] at h; simp at h
  · rw [ht, if_pos rfl] at h
    by_cases h2 : c.size ≤ 16777216
    · refine ⟨rfl, h2, ?_⟩
      unfold chunkS; rw [ht, if_pos rfl, if_pos h2]
    · rw [if_neg h2] at h; simp at h
theorem chunkS_bad (t c : ByteArray) (h : ¬ chunkE t c = 0) : chunkS t c = ⟨#[]⟩ := by
  unfold chunkE at h; unfold chunkS
  cases ht : tagB t
  · rfl
  · rw [ht, if_pos rfl] at h
    rw [if_pos rfl]
    by_cases h2 : c.size ≤ 16777216
    · rw [if_pos h2] at h; exact absurd rfl h
    · rw [if_neg h2]
theorem chunkS_size (t c : ByteArray) (h : chunkE t c = 0) : (chunkS t c).size = 12 + c.size := by
  obtain ⟨h1, h2, h3⟩ := chunkS_ok t c h
  rw [h3, ← toL_len, toL_mk]
  unfold chunkL
  simp only [List.length_append, low_len, toL_len]
  rw [tagB_size t h1]; omega
/-- What was written is a chunk. -/
theorem chE_chunk (t c r z : ByteArray) (h : chunkE t c = 0) (hr : r = chunkS t c ++ z) : chE r = 0 ∧ r.extract 0 4 = t ∧ cC r = c := by
  obtain ⟨h1, h2, h3⟩ := chunkS_ok t c h
  have hl : r.data.toList = t.data.toList ++ (low 4 c.size ++ (c.data.toList ++ (low 4 (sumL (t.data.toList ++ c.data.toList)) ++ z.data.toList))) := by
    rw [hr, h3]; unfold chunkL; simp
  have hh : high (low 4 c.size) = c.data.toList.length := by rw [toL_len]; exact high_low 4 _ (by omega)
  obtain ⟨p1, p2, p3, p4, p5⟩ := parts r _ _ _ _ _ hl (by rw [toL_len]; exact tagB_size t h1) (low_len _ _) (low_len _ _) hh
  rw [str_back] at p1 p4
  rw [toL_len] at p2 p3
  refine ⟨chE_0 r (by rw [p1]; exact h1) (by omega) (by omega) ?_, p1, p4⟩
  rw [p5, p1, p4]
  exact high_low 4 _ (by have := sumL_lt (t.data.toList ++ c.data.toList); omega)
theorem nR_cat (b c z : ByteArray) : nR (b ++ c ++ z) (b.size : Int) = c ++ z := by
  apply toL_inj
  unfold nR
  rw [toL_ext]
  simp only [Int.toNat_natCast]
  have : (b ++ c ++ z).data.toList = b.data.toList ++ (c.data.toList ++ z.data.toList) := by simp
  rw [this, List.drop_left' (toL_len b)]
  have e : (c ++ z).data.toList = c.data.toList ++ z.data.toList := by simp
  rw [e]
  exact List.take_of_length_le (by simp; omega)
/-- Next behind Chunk. -/
theorem back_next (b t c z : ByteArray) (h : chunkE t c = 0) :
    nV (b ++ chunkS t c ++ z) b.size = .tuple #[.string t, .string c, .int .i64 ((b.size : Int) + (chunkS t c).size), .int .i64 0] := by
  have hs := chunkS_size t c h
  have hl : lackE (b ++ chunkS t c ++ z).size b.size 8 = 0 := lackE_ok _ _ _ (by omega) (by simp only [ByteArray.size_append]; omega) (by omega)
  obtain ⟨e1, e2, e3⟩ := chE_chunk t c _ z h rfl
  rw [← nR_cat b] at e1 e2 e3
  rw [nV_ok _ _ hl e1, e2, e3, hs, show ((b.size : Int) + 12 + (c.size : Int)) = (b.size : Int) + ((12 + c.size : Nat) : Int) by omega]
/-- Take behind Put. -/
theorem back_take (b z : ByteArray) (n : Nat) (hn : n < 18446744073709551616) :
    takeV ((⟨(b.data.toList ++ low 8 n).toArray⟩ : ByteArray) ++ z) b.size = .tuple #[.int .u64 n, .int .i64 ((b.size : Int) + 8), .int .i64 0] := by
  have hs : ((⟨(b.data.toList ++ low 8 n).toArray⟩ : ByteArray) ++ z).size = b.size + 8 + z.size := by
    rw [ByteArray.size_append, ← toL_len, toL_mk, List.length_append, low_len, toL_len]
  have hl : lackE ((⟨(b.data.toList ++ low 8 n).toArray⟩ : ByteArray) ++ z).size b.size 8 = 0 := lackE_ok _ _ _ (by omega) (by rw [hs]; omega) (by omega)
  unfold takeV takeN takeK
  rw [hl, if_pos rfl, if_pos rfl]
  suffices h : highB (((⟨(b.data.toList ++ low 8 n).toArray⟩ : ByteArray) ++ z).extract (b.size : Int).toNat ((b.size : Int).toNat + 8)) = n by rw [h]
  unfold highB
  rw [toL_ext]
  simp only [Int.toNat_natCast]
  have : ((⟨(b.data.toList ++ low 8 n).toArray⟩ : ByteArray) ++ z).data.toList = b.data.toList ++ (low 8 n ++ z.data.toList) := by simp
  rw [this, List.drop_left' (toL_len b), List.take_left' (by rw [low_len]; omega), high_low 8 n (by omega)]
end Go.Proofs.Ytmfbjmffodnaeaa.Wk
