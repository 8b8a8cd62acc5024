/- What a write makes of bytes (apply), and copies of rows (Clone). -/
import Derived.Test.YtpkhghjmelgpeaaGreatW1
import Derived.Test.YtpkhghjmelgpeaaGreatS
import Derived.Deep.RegionLaw
import Derived.RegionTactic
import Derived.Lib.BufferWrite
import Derived.Lib.LazyBuf
set_option linter.unusedVariables false
namespace Go.Proofs.YtpkhghjmelgpeaaGreat.Wk
open Go.ChangeShapes Go.WideShapes Go.ChangeAt Go.RowKit M

theorem step_copy_run {P : Program} {ops : Array Oper} {o : Oper} {a : Act} {w : World} {K : Act → World → Prop} {Q : Exit → Act → World → Prop} {E : Prop} (hgd : o.guard = none) (d s : Operand) (t t' : TypeId)
    (ho : o.op = .call { callee := .builtin .copy, args := #[d, s], argTypes := #[t, t'] }) (v u : Value) (hd : a.eval d = v) (hs : a.eval s = u) {v' : Value} {w' : World}
    (hr : (Builtin.copy_ #[t, t'] o.type #[v, u]).run P w = .ok v' w') (h : K (a.put o.dst v') w') : if Region.wanted o (yielded ops a.tmps) = true then Oper.wp P o a w K Q else E := by
  have hw : Region.wanted o (yielded ops a.tmps) = true := by simp [Region.wanted, hgd]
  rw [if_pos hw]
  exact Lib.wp_copy_run w d s t t' ho v u hd hs hr h

theorem step_append_run {P : Program} {ops : Array Oper} {o : Oper} {a : Act} {w : World} {K : Act → World → Prop} {Q : Exit → Act → World → Prop} {E : Prop} (hgd : o.guard = none) (d s : Operand) (t t' : TypeId)
    (ho : o.op = .call { callee := .builtin .append, args := #[d, s], argTypes := #[t, t'] }) (v u : Value) (hd : a.eval d = v) (hs : a.eval s = u) {v' : Value} {w' : World}
    (hr : (Builtin.append_ #[t, t'] o.type #[v, u]).run P w = .ok v' w') (h : K (a.put o.dst v') w') : if Region.wanted o (yielded ops a.tmps) = true then Oper.wp P o a w K Q else E := by
  have hw : Region.wanted o (yielded ops a.tmps) = true := by simp [Region.wanted, hgd]
  rw [if_pos hw]
  exact Lib.wp_append_run w d s t t' ho v u hd hs v' w' hr h

theorem zeros_cells (m : Nat) : (Builtin.zeroCells #[.int .u8 0] m).toList = List.replicate m (Value.int .u8 0) := by
  simp [Builtin.zeroCells, Nat.mod_one]
  rw [List.eq_replicate_iff]; simp
theorem bcells_zeros (m : Nat) : bcells (List.replicate m 0) = List.replicate m (Value.int .u8 0) := by simp [bcells]
theorem bcells_append (a b : List UInt8) : bcells (a ++ b) = bcells a ++ bcells b := by simp [bcells]

/-- An append of zeros. -/
theorem Row.zeros {P : Program} {w : World} {e : TypeId} {v : Value} {l : List UInt8} (h : Row w e 1 v l.length (bcells l)) (t tn ty : TypeId) (kn : IntKind) (i : TypeInfo) (ht : P.underlying t = some (.slice e)) (htn : P.underlying tn = some (.int kn)) (hi : P.info? e = some i) (hz : i.zero = some (.int .u8 0))
    (hsize : i.size = 1) (hby : i.bytes = 1) (m : Nat) (hm : 0 < m) (hs : l.length + m ≤ 140737488355328) :
    ∃ v' w', (Builtin.append_ #[t, tn] ty #[v, .int .i64 m]).run P w = .ok v' w' ∧ Row w' e 1 v' (l.length + m) (bcells (l ++ List.replicate m 0)) ∧ w.grownBy w' (blk v) ∧ (blk v' = blk v ∨ blk v' = some w.heap.size) := by
  have hw : IntKind.i64.wrap (m : Int) = m := by rw [IntKind.wrap_i64]; omega
  have hneg : ¬ ((m : Int) < 0) := by omega
  have h48i : ¬ (281474976710656 < (m : Int)) := by omega
  have hm0 : m ≠ 0 := by omega
  have hlen : (bcells (l ++ List.replicate m 0)).length = (l.length + m) * 1 := by rw [bcells_len]; simp
  have hzc := zeros_cells m
  have hgrow : ∀ (b0 : Option Addr) (c0 : Nat), v = .slice b0 l.length c0 → c0 < l.length + m → (∀ j u, (bcells l)[j]? = some u → ∃ a, b0 = some a ∧ w.drew.cell? (a.add j) = some u) →
      ∃ v' w', (Builtin.append_ #[t, tn] ty #[v, .int .i64 m]).run P w = .ok v' w' ∧ Row w' e 1 v' (l.length + m) (bcells (l ++ List.replicate m 0)) ∧ w.grownBy w' (blk v) ∧ (blk v' = blk v ∨ blk v' = some w.heap.size) := by
    intro b0 c0 hv hc hcell
    subst hv
    have hfc : (Builtin.firstCells 1 l.length (.slice b0 l.length c0)).run P w.drew = .ok (bcells l).toArray w.drew := by
      cases b0 with
      | none =>
        have : bcells l = [] := by
          cases hb : bcells l with
          | nil => rfl
          | cons y r => obtain ⟨a, ha, _⟩ := hcell 0 y (by rw [hb]; rfl); cases ha
        rw [this]
        exact run_firstCells_none (P := P) w.drew 1 l.length l.length c0
      | some a => exact run_firstCells_some (P := P) w.drew 1 l.length a l.length c0 (bcells l) (by rw [bcells_len]; omega) (fun j u hu => by obtain ⟨a', ha, hq⟩ := hcell j u hu; cases ha; exact hq)
    have hge := grownCap_ge w (l.length + m) c0 e
    have hle := grownCap_le_maxLen w (l.length + m) c0 e (by unfold maxLen; omega)
    have hn : ¬ (l.length + m ≤ c0) := by omega
    have h63 : ¬ (9223372036854775807 < ((l.length : Int) + (m : Int))) := by omega
    have h48 : ¬ (281474976710656 < Builtin.nextslicecap (l.length + m) c0) := by have := growslice_fits (need := l.length + m) (old := c0) (bytes := 1) (by omega) (by omega); omega
    have hr : (Builtin.append_ #[t, tn] ty #[.slice b0 l.length c0, .int .i64 m]).run P w = .ok (.slice (some ⟨w.heap.size, 0, none⟩) (l.length + m) (grownCap w (l.length + m) c0 e))
        (w.drew.alloc (.cells ((bcells l ++ List.replicate m (Value.int .u8 0)).toArray ++ Builtin.zeroCells #[.int .u8 0] (grownCap w (l.length + m) c0 e - (l.length + m))) e)) := by
      simp [Builtin.append_, run_underlying ht, run_underlying htn, sizeOf, typeInfo, zeroValue, hi, hz, hsize, hby, asInt, asIntOf, hw, hneg, h48i, hm0, hn, h63, h48, Question.forced, hfc, newRow, grownCap, Value.cells]
      congr 2
      apply Array.ext'
      simp [List.append_assoc, hzc]
    refine ⟨_, _, hr, ⟨hlen, .inr ⟨_, _, _, rfl, by omega, ⟨_, heap_alloc_new w.drew _, .inl (Nat.le_refl _)⟩, hge, hle, ?_, ?_⟩⟩, ?_, .inr ?_⟩
    · simp [size_zeroCells, bcells_len]; omega
    · rw [Array.toList_append, bcells_append, bcells_zeros, ← hlen, bcells_append, bcells_zeros]; exact List.take_left' rfl
    · exact ⟨rfl, rfl, rfl, by simp, fun k hk _ => Below.heap_alloc w.drew _ k hk⟩
    · obtain ⟨c, hc'⟩ : ∃ c, grownCap w (l.length + m) c0 e = c + 1 := ⟨grownCap w (l.length + m) c0 e - 1, by omega⟩
      rw [hc']; rfl
  rcases h.2 with ⟨h0, a, rfl⟩ | ⟨g, cap, cur, rfl, hc, ⟨fz, hg, hfz⟩, hn, hcm, hcs, htake⟩
  · have : l = [] := List.eq_nil_of_length_eq_zero h0
    subst this
    exact hgrow a 0 rfl (by simp; omega) (by simp [bcells])
  · by_cases hroom : l.length + m ≤ cap
    · have hcl : cur.toList.length = cur.size := Array.length_toList
      have htl : (cur.toList.take l.length).length = l.length := by rw [List.length_take, hcl]; omega
      have hcell : ∀ j, j < (List.replicate m (Value.int .u8 0)).length → (w.cell? ⟨g, l.length + j, none⟩).isSome = true := fun j hj => by
        rw [cell_of_row w g _ cur e fz hg]; simp at hj ⊢; omega
      have hst := run_storeCells_cells (P := P) g l.length (List.replicate m (Value.int .u8 0)) 0 w (by simpa using hcell) (fun j hj => by simp at hj; exact unfz_frozen hg hfz _ (by omega)) (by intro u hu; rw [List.eq_of_mem_replicate hu]; rfl)
      simp only [Nat.add_zero] at hst
      have hr : (Builtin.append_ #[t, tn] ty #[.slice (some ⟨g, 0, none⟩) l.length cap, .int .i64 m]).run P w = .ok (.slice (some ⟨g, 0, none⟩) (l.length + m) cap)
          (w.setCells g l.length (List.replicate m (Value.int .u8 0))) := by
        simp [Builtin.append_, run_underlying ht, run_underlying htn, sizeOf, typeInfo, zeroValue, hi, hz, hsize, hby, asInt, asIntOf, hw, hneg, h48i, hm0, hroom, Addr.add_lit, Value.cells, hzc]
        simpa using congrArg (fun r => Result.andThen r fun _ w' => Result.ok (Value.slice (some ⟨g, 0, none⟩) (l.length + m) cap) w') hst
      have hsz : (cur.toList.take l.length ++ List.replicate m (Value.int .u8 0) ++ cur.toList.drop (l.length + (List.replicate m (Value.int .u8 0)).length)).toArray.size = cur.size := by
        simp only [List.size_toArray, List.length_append, List.length_drop, Array.length_toList, htl, List.length_replicate]; omega
      refine ⟨_, _, hr, ⟨hlen, .inr ⟨g, cap, _, rfl, hc, ⟨fz, setCells_heap _ _ w cur hg (by simp; omega), by unfold unfz at hfz ⊢; rw [hsz]; exact hfz⟩, hroom, hcm, by rw [hsz]; exact hcs, ?_⟩⟩, ?_, .inl ?_⟩
      · rw [Nat.mul_one] at htake
        rw [htake, bcells_append, bcells_zeros, ← hlen, bcells_append, bcells_zeros]; exact List.take_left' rfl
      · obtain ⟨c, rfl⟩ : ∃ c, cap = c + 1 := ⟨cap - 1, by omega⟩
        exact setCells_grown w g _ _ rfl
      · obtain ⟨c, rfl⟩ : ∃ c, cap = c + 1 := ⟨cap - 1, by omega⟩
        rfl
    · refine hgrow _ _ rfl (by omega) (fun j u hu => ⟨_, rfl, ?_⟩)
      obtain ⟨a, c, e1, _, hq⟩ := h.cells
      obtain ⟨g', e2, hq⟩ := hq j u hu
      cases e1; cases e2
      have : (⟨g, 0, none⟩ : Addr).add j = ⟨g, j, none⟩ := by unfold Addr.add; split <;> simp_all
      rw [this]; exact hq

/-- A string is copied into a row: at a place, whole. -/
theorem Row.copied {P : Program} {w : World} {e : TypeId} {v : Value} {l : List UInt8} (h : Row w e 1 v l.length (bcells l)) (dT sT ty : TypeId) (hu : P.underlying dT = some (.slice e)) (hs : (P.info? e).map (·.size) = some 1)
    (t : ByteArray) (p : Nat) (hp : p + t.size ≤ l.length) :
    ∃ w', (∀ a c, v = .slice a l.length c → (Builtin.copy_ #[dT, sT] ty #[.slice (if c = p then a else a.map (·.add p)) (l.length - p) (c - p), .string t]).run P w = .ok (goInt t.size) w') ∧
      Row w' e 1 v l.length (bcells (l.take p ++ t.data.toList ++ l.drop (p + t.size))) ∧ w.grownBy w' (blk v) := by
  by_cases h0 : t.size = 0
  · refine ⟨w, fun a c hv => ?_, ?_, World.grownBy.refl _ _⟩
    · rw [h0]; exact Lib.run_copy_empty_string w dT sT ty e _ _ _ t hu (by rw [hs]; rfl) h0
    · have : t.data.toList = [] := List.eq_nil_of_length_eq_zero (by simpa using h0)
      rw [this, h0]; simpa using h
  · rcases h.2 with ⟨h1, a, rfl⟩ | ⟨g, cap, cur, rfl, hc, ⟨fz, hg, hfz⟩, hn, hcm, hcs, htake⟩
    · omega
    · have hcl : cur.toList.length = cur.size := Array.length_toList
      have htl : (cur.toList.take l.length).length = l.length := by rw [List.length_take, hcl]; omega
      have hz1 : ∀ w, (Go.sizeOf e).run P w = .ok 1 w := fun w => by
        cases hq : P.info? e with
        | none => simp [hq] at hs
        | some i => simp [hq] at hs; simp [Go.sizeOf, typeInfo, hq, hs]
      have hr := _root_.Go.run_copy_string (P := P) w dT sT ty e g p (l.length - p) (cap - p) t hu hz1 (by omega) (fun j hj => by rw [cell_of_row w g _ cur e fz hg]; simp; omega) (fun j hj => unfz_frozen hg hfz _ (by omega))
      have hb0 : (t.data.toList.map fun x => Value.int .u8 (x.toNat : Int)) = bcells t.data.toList := rfl
      rw [hb0] at hr
      have hbl : (bcells t.data.toList).length = t.size := by rw [bcells_len]; simp
      have hsz : (cur.toList.take p ++ bcells t.data.toList ++ cur.toList.drop (p + (bcells t.data.toList).length)).toArray.size = cur.size := by
        simp only [List.size_toArray, List.length_append, List.length_drop, List.length_take, Array.length_toList, hbl]; omega
      refine ⟨w.setCells g p (bcells t.data.toList), fun a c hv => ?_, ⟨?_, .inr ⟨g, cap, _, rfl, hc, ⟨fz, setCells_heap _ _ w cur hg (by rw [hbl]; omega), by unfold unfz at hfz ⊢; rw [hsz]; exact hfz⟩, hn, hcm, by rw [hsz]; exact hcs, ?_⟩⟩, ?_⟩
      · cases hv
        rw [if_neg (by omega)]
        have : (⟨g, 0, none⟩ : Addr).add p = ⟨g, p, none⟩ := by unfold Addr.add; split <;> simp_all
        simp only [Option.map_some, this]
        exact hr
      · rw [bcells_len]; simp; omega
      · rw [Nat.mul_one] at htake ⊢
        rw [hbl]
        have e1 : (cur.toList.take p) = bcells (l.take p) := by
          rw [show bcells (l.take p) = (bcells l).take p by simp [bcells, List.map_take], ← htake, List.take_take, Nat.min_eq_left (by omega)]
        have e2 : (cur.toList.drop (p + t.size)).take (l.length - (p + t.size)) = bcells (l.drop (p + t.size)) := by
          rw [show bcells (l.drop (p + t.size)) = (bcells l).drop (p + t.size) by simp [bcells, List.map_drop], ← htake, List.drop_take]
        have e3 : (bcells (l.take p) ++ bcells t.data.toList).length = p + t.size := by simp [bcells_len]; omega
        rw [e1, List.take_append, e3, e2, List.take_of_length_le (by omega), bcells_append, bcells_append]
      · obtain ⟨c, rfl⟩ : ∃ c, cap = c + 1 := ⟨cap - 1, by omega⟩
        exact setCells_grown w g _ _ rfl
end Go.Proofs.YtpkhghjmelgpeaaGreat.Wk
