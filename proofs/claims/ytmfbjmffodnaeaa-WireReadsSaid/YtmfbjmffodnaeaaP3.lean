/- Plain facts on chunks: what is read has one form; all chunks of a text make it up. -/
import Derived.Test.YtmfbjmffodnaeaaP2
set_option linter.unusedVariables false
namespace Go.Proofs.Ytmfbjmffodnaeaa.Wk
open Go.ChangeShapes Go.WideShapes Go.ChangeAt Go.RowKit M

theorem str_mk {b : ByteArray} {l : List UInt8} (h : b.data.toList = l) : b = ⟨l.toArray⟩ := toL_inj h
theorem one_form_r (r : ByteArray) (h : chE r = 0) : chunkE (r.extract 0 4) (cC r) = 0 ∧ chunkS (r.extract 0 4) (cC r) = r.extract 0 (12 + (cC r).size) := by
  obtain ⟨h1, h2, h3, h4⟩ := chE_size r h
  have hs := cC_size r h3
  have e : chunkE (r.extract 0 4) (cC r) = 0 := by unfold chunkE; rw [h1, if_pos rfl, if_pos (by omega)]
  refine ⟨e, ?_⟩
  obtain ⟨_, _, e3⟩ := chunkS_ok _ _ e
  rw [e3, hs]
  apply toL_inj
  rw [toL_mk]
  unfold chunkL
  have hsz := toL_len r
  have l1 : (r.extract 0 4).data.toList = r.data.toList.take 4 := by rw [toL_ext, List.drop_zero]
  have l2 : low 4 (cC r).data.toList.length = (r.data.toList.drop 4).take 4 := by
    have e1 : (r.extract 4 8).data.toList = (r.data.toList.drop 4).take 4 := toL_ext _ _ _
    have e2 : (r.extract 4 8).data.toList.length = 4 := by rw [toL_len]; exact size_ext r 4 8 (by omega) (by omega)
    have e3 := low_high (r.extract 4 8).data.toList
    rw [e2] at e3
    rw [toL_len, hs, ← e1]
    exact e3
  have lR : (cR r).data.toList = r.data.toList.drop 8 := by
    unfold cR; rw [toL_ext]
    exact List.take_of_length_le (by simp)
  have l3 : (cC r).data.toList = (r.data.toList.drop 8).take (cL r) := by
    unfold cC; rw [toL_ext, lR, List.drop_zero, Nat.sub_zero]
  have l4 : low 4 (sumL ((r.extract 0 4).data.toList ++ (cC r).data.toList)) = (r.data.toList.drop (8 + cL r)).take 4 := by
    have e1 : ((cR r).extract (cL r) (cL r + 4)).data.toList = (r.data.toList.drop (8 + cL r)).take 4 := by
      rw [toL_ext, lR, List.drop_drop, show cL r + 4 - cL r = 4 by omega]
    have e2 : ((cR r).extract (cL r) (cL r + 4)).data.toList.length = 4 := by
      rw [e1, List.length_take, List.length_drop, hsz]; omega
    have e3 := low_high ((cR r).extract (cL r) (cL r + 4)).data.toList
    rw [e2] at e3
    have h4' : high ((cR r).extract (cL r) (cL r + 4)).data.toList = sumL ((r.extract 0 4).data.toList ++ (cC r).data.toList) := h4
    rw [h4', e1] at e3
    exact e3
  rw [l2, l4, l1, l3, toL_ext, List.drop_zero, Nat.sub_zero]
  have j1 : r.data.toList.take 8 = r.data.toList.take 4 ++ (r.data.toList.drop 4).take 4 := List.take_add (l := r.data.toList) (i := 4) (j := 4)
  have j2 : r.data.toList.take (8 + cL r) = r.data.toList.take 8 ++ (r.data.toList.drop 8).take (cL r) := List.take_add
  have j3 : r.data.toList.take (8 + cL r + 4) = r.data.toList.take (8 + cL r) ++ (r.data.toList.drop (8 + cL r)).take 4 := List.take_add
  rw [show 12 + cL r = 8 + cL r + 4 by omega, j3, j2, j1]
theorem one_form (b : ByteArray) (n : Nat) (h : nE b n = 0) :
    chunkE (nT b n) (nC b n) = 0 ∧ chunkS (nT b n) (nC b n) = b.extract n (n + 12 + (nC b n).size) ∧ n + 12 + (nC b n).size ≤ b.size := by
  obtain ⟨h1, h2⟩ := nE_ok b n h
  have h0 : n + 8 ≤ b.size := by unfold lackE at h1; split at h1 <;> (try split at h1) <;> omega
  obtain ⟨_, hk, _⟩ := next_place b n h
  have hC : nC b n = cC (nR b n) := by unfold nC chC; rw [h1, if_pos rfl, h2, if_pos rfl]
  have hT : nT b n = (nR b n).extract 0 4 := by unfold nT chT; rw [h1, if_pos rfl, h2, if_pos rfl]
  obtain ⟨e1, e2⟩ := one_form_r (nR b n) h2
  rw [hT, hC]
  rw [hC] at hk
  refine ⟨e1, ?_, hk⟩
  rw [e2]
  have := sub_sub b n 0 (12 + (cC (nR b n)).size) (by omega)
  rw [show n + (12 + (cC (nR b n)).size) = n + 12 + (cC (nR b n)).size by omega] at this
  exact this
theorem nE_neg (b : ByteArray) (a : Int) (h : nE b a = 0) : 0 ≤ a ∧ a + 8 ≤ b.size := by
  obtain ⟨h1, _⟩ := nE_ok b a h
  unfold lackE at h1; split at h1 <;> (try split at h1) <;> omega

/-- The chunks' bytes, one behind the other. -/
def joinL (l : Fs) : List UInt8 := l.flatMap fun p => (chunkS p.1 p.2).data.toList
theorem joinL_snoc (l : Fs) (p : ByteArray × ByteArray) : joinL (l ++ [p]) = joinL l ++ (chunkS p.1 p.2).data.toList := by simp [joinL]
theorem joinL_take (l : Fs) (k : Nat) (h : k < l.length) : joinL (l.take (k + 1)) = joinL (l.take k) ++ (chunkS l[k].1 l[k].2).data.toList := by
  rw [List.take_succ_eq_append_getElem h, joinL_snoc]
theorem joinL_le (l : Fs) (k : Nat) : (joinL (l.take k)).length ≤ (joinL l).length := by
  have : joinL l = joinL (l.take k) ++ joinL (l.drop k) := by unfold joinL; rw [← List.flatMap_append, List.take_append_drop]
  rw [this]; simp
theorem chsF_one (f : Nat) (b : ByteArray) : ∀ (n : Nat) (acc : Fs), n ≤ b.size → b.size < f + n → (∀ p ∈ acc, chunkE p.1 p.2 = 0) → joinL acc = b.data.toList.take n →
    (((chsF f b n acc).2.1 = 0 → (∀ p ∈ (chsF f b n acc).1, chunkE p.1 p.2 = 0) ∧ joinL (chsF f b n acc).1 = b.data.toList) ∧ (¬ (chsF f b n acc).2.1 = 0 → (chsF f b n acc).1 = [])) := by
  induction f with
  | zero => intro n acc h1 h2; omega
  | succ f ih =>
    intro n acc h1 h2 h3 h4
    simp only [chsF]
    by_cases hlt : n < b.size
    · rw [if_pos hlt]
      by_cases hE : nE b n = 0
      · rw [if_pos hE]
        obtain ⟨k1, k2, k3⟩ := next_place b n hE
        obtain ⟨o1, o2, o3⟩ := one_form b n hE
        rw [k1, Int.toNat_natCast]
        refine ih _ _ k2 (by omega) ?_ ?_
        · intro p hp
          rcases List.mem_append.1 hp with hp | hp
          · exact h3 p hp
          · simp at hp; subst hp; exact o1
        · rw [joinL_snoc, h4, o2, toL_ext, show n + 12 + (nC b n).size - n = 12 + (nC b n).size by omega, show n + 12 + (nC b n).size = n + (12 + (nC b n).size) by omega]
          exact List.take_add.symm
      · rw [if_neg hE]
        exact ⟨fun h => absurd h hE, fun _ => rfl⟩
    · rw [if_neg hlt]
      refine ⟨fun _ => ⟨h3, ?_⟩, fun h => absurd rfl h⟩
      rw [h4]
      exact List.take_of_length_le (by rw [toL_len]; omega)
theorem chs_one (b : ByteArray) : ((chs b).2.1 = 0 → (∀ p ∈ (chs b).1, chunkE p.1 p.2 = 0) ∧ joinL (chs b).1 = b.data.toList) ∧ (¬ (chs b).2.1 = 0 → (chs b).1 = []) :=
  chsF_one (b.size + 1) b 0 [] (by omega) (by omega) (by simp) rfl
end Go.Proofs.Ytmfbjmffodnaeaa.Wk
