/- What apply answers: the bytes behind a write. -/
import Derived.Test.YtpkhghjmelgpeaaGreatW2
set_option linter.unusedVariables false
namespace Go.Proofs.YtpkhghjmelgpeaaGreat.Wk
open Go.ChangeShapes Go.WideShapes Go.ChangeAt Go.RowKit M

theorem infoB : (Tryz.prog.info? 5).map (fun i => (i.zero, i.size, i.bytes)) = some (some (.int .u8 0), 1, 1) := by kernel_rfl

set_option maxHeartbeats 1000000 in
theorem apply_emp (o p : Int) (t : ByteArray) (bv : Value) (w : World) :
    Calls Tryz.prog 125 #[.agg #[.int .i64 o, .bool true, .int .i64 p, .string t], bv] w fun e w' => e = .returned (.slice none 0 0) ∧ Below w.heap.size w w' := by
  go_enter Tryz.func125, Tryz.ntmps125
  go_wp2
  go_ret
  exact ⟨rfl, (Below.refl _ _).alloc (Nat.le_refl _) _⟩

/-- A row is handed back: the old one, or one in a new block. -/
def Handed (w : World) (bv : Value) (l : List UInt8) (e : Ending) (w' : World) : Prop :=
  ∃ v', e = .returned v' ∧ Row w' 5 1 v' l.length (bcells l) ∧ w.grownBy w' (blk bv) ∧ (blk v' = blk bv ∨ ∀ k, blk v' = some k → w.heap.size ≤ k)

/-- A box and a draw ahead change nothing old. -/
theorem box_grown {w w2 : World} {o : Obj} {row : Option Nat} (h : (w.alloc o).drew.grownBy w2 row) : w.grownBy w2 row :=
  ⟨h.os, h.tape, h.output, Nat.le_trans (by simp) h.size, fun k hk hne => (h.block k (by simp; omega) hne).trans (Below.heap_alloc w o k hk)⟩
theorem box_row {w : World} {o : Obj} {e : TypeId} {z : Nat} {v : Value} {n : Nat} {xs : List Value} (h : Row w e z v n xs) : Row (w.alloc o).drew e z v n xs := h.kept (fun k hk => Below.heap_alloc w _ k (h.lt k hk))

set_option maxHeartbeats 2000000 in
set_option maxRecDepth 100000 in
theorem apply_in (o : Int) (p : Nat) (t : ByteArray) (a : Option Addr) (c : Nat) (l : List UInt8) (w : World) (h : Row w 5 1 (.slice a l.length c) l.length (bcells l)) (hp : p + t.size ≤ l.length) (hl : l.length ≤ 4194304) :
    Calls Tryz.prog 125 #[.agg #[.int .i64 o, .bool false, .int .i64 p, .string t], .slice a l.length c] w (Handed w (.slice a l.length c) (l.take p ++ t.data.toList ++ l.drop (p + t.size))) := by
  have hLl : (l.take p ++ t.data.toList ++ l.drop (p + t.size)).length = l.length := by simp; omega
  have hc : l.length ≤ c := by
    rcases h.2 with ⟨h0, a', hv⟩ | ⟨g, cap, cur, hv, _, _, hn, _⟩
    · omega
    · cases hv; exact hn
  have hb : blk (Value.slice a l.length c) ≠ some w.heap.size := fun e => by have := h.lt _ e; omega
  obtain ⟨w2, hr, h2, hg2⟩ := (h.kept (w' := (w.alloc (.cells #[.int .i64 o, .bool false, .int .i64 p, .string t] 149)).drew) (fun k hk => Below.heap_alloc w _ k (h.lt k hk))).copied 92 9 3 Tryz.underlying92 (by kernel_rfl) t p hp
  have HR := Lib.hid (hr a c rfl)
  have HW := Lib.hid (show Row w2 _ 1 (.slice a l.length c) (l.take p ++ t.data.toList ++ l.drop (p + t.size)).length _ by rw [hLl]; exact h2)
  have HG := Lib.hid hg2
  clear hr h2 hg2 hLl
  generalize l.take p ++ t.data.toList ++ l.drop (p + t.size) = L at *
  have hd : decide ((l.length : Int) < (p : Int) + (t.size : Int)) = false := by simp; omega
  have hpl : (p : Int) ≤ l.length := by omega
  have hpc : (p : Int) ≤ c := by omega
  go_enter Tryz.func125, Tryz.ntmps125
  go_wp2
  have HR' := HR.out
  go_region_law (refine step_copy_run rfl (.tmp 25) (.tmp 27) 92 9 rfl _ _ (by simp [Act.eval, Act.put]) (by simp [Act.eval, Act.put]) HR' ?_)
  all_goals (clear HR'; try go_wp2)
  all_goals
    go_ret
    first
      | exact ⟨_, rfl, HW.out, box_grown HG.out, .inl rfl⟩
      | (have e1 : c = p := by assumption
         subst e1
         exact ⟨_, rfl, HW.out, box_grown HG.out, .inl rfl⟩)

theorem zeros_in (w : World) (v : Value) (l : List UInt8) (m : Nat) (h : Row w 5 1 v l.length (bcells l)) (hm : 0 < m) (hl : l.length + m ≤ 4194304) :
    ∃ v' w', (Builtin.append_ #[92, 3] 92 #[v, .int .i64 m]).run Tryz.prog w = .ok v' w' ∧ Row w' 5 1 v' (l.length + m) (bcells (l ++ List.replicate m 0)) ∧ w.grownBy w' (blk v) ∧ (blk v' = blk v ∨ blk v' = some w.heap.size) := by
  obtain ⟨i, hi, hz0, hz1, hz2⟩ := info_parts infoB
  exact h.zeros 92 3 _ .i64 i Tryz.underlying92 Tryz.underlying3 hi hz0 hz1 hz2 m hm (by omega)

set_option maxHeartbeats 2000000 in
set_option maxRecDepth 100000 in
theorem apply_out (o : Int) (p : Nat) (t : ByteArray) (a : Option Addr) (c : Nat) (l : List UInt8) (w : World) (h : Row w 5 1 (.slice a l.length c) l.length (bcells l)) (hp : l.length < p + t.size) (hl : p + t.size ≤ 4194304) :
    Calls Tryz.prog 125 #[.agg #[.int .i64 o, .bool false, .int .i64 p, .string t], .slice a l.length c] w (Handed w (.slice a l.length c) ((l ++ List.replicate (p + t.size - l.length) 0).take p ++ t.data.toList)) := by
  have hb : blk (Value.slice a l.length c) ≠ some w.heap.size := fun e => by have := h.lt _ e; omega
  have hbx : Row (w.alloc (.cells #[.int .i64 o, .bool false, .int .i64 p, .string t] 149)) 5 1 (.slice a l.length c) l.length (bcells l) := h.kept (fun k hk => Below.heap_alloc w _ k (h.lt k hk))
  obtain ⟨v1, w1, hr1, h1, hg1, hs1⟩ := zeros_in _ _ l (p + t.size - l.length) hbx (by omega) (by omega)
  have hlen : (l ++ List.replicate (p + t.size - l.length) (0 : UInt8)).length = l.length + (p + t.size - l.length) := by simp
  rw [← hlen] at h1
  have hpt : p + t.size ≤ (l ++ List.replicate (p + t.size - l.length) (0 : UInt8)).length := by omega
  obtain ⟨a1, c1, hv1, hc1⟩ : ∃ a1 c1, v1 = .slice a1 (p + t.size) c1 ∧ p + t.size ≤ c1 := by
    rcases h1.2 with ⟨h0, a', hv⟩ | ⟨g, cap, cur, hv, _, _, hn, _⟩
    · omega
    · exact ⟨_, _, by rw [hv]; congr 1; omega, by omega⟩
  have hbx1 : w1.cell? ⟨w.heap.size, 2, none⟩ = some (.int .i64 p) ∧ w1.cell? ⟨w.heap.size, 3, none⟩ = some (.string t) := by
    have hk := hg1.block w.heap.size (by simp) (fun e => hb e.symm)
    have hk2 : w1.heap[w.heap.size]? = some (.cells #[.int .i64 o, .bool false, .int .i64 p, .string t] 149 (0, 0)) := hk.trans (heap_alloc_new w _)
    exact ⟨cell_blk hk2 2, cell_blk hk2 3⟩
  obtain ⟨w2, hr, h2, hg2⟩ := (show Row w1.drew 5 1 v1 _ _ from h1).copied 92 9 3 Tryz.underlying92 (by kernel_rfl) t p hpt
  subst hv1
  have hll : (l ++ List.replicate (p + t.size - l.length) (0 : UInt8)).length = p + t.size := by omega
  rw [hll] at hr h2
  rw [Nat.add_sub_cancel_left] at hr
  have HR := Lib.hid (hr a1 c1 rfl)
  have hdrop : (l ++ List.replicate (p + t.size - l.length) (0 : UInt8)).drop (p + t.size) = [] := List.drop_eq_nil_of_le (by omega)
  rw [hdrop, List.append_nil] at h2
  have HW := Lib.hid (show Row w2 5 1 (.slice a1 (p + t.size) c1) (((l ++ List.replicate (p + t.size - l.length) 0).take p ++ t.data.toList).length) _ by
    have : ((l ++ List.replicate (p + t.size - l.length) (0 : UInt8)).take p ++ t.data.toList).length = p + t.size := by simp; omega
    rw [this]; exact h2)
  have HG1 := Lib.hid hg1
  have HG := Lib.hid hg2
  have HS := Lib.hid hs1
  obtain ⟨m, hm⟩ : ∃ m : Nat, m = p + t.size - l.length := ⟨_, rfl⟩
  rw [← hm] at hr1
  have HR1 := Lib.hid hr1
  have HM := Lib.hid hm
  obtain ⟨b1, b2⟩ := hbx1
  have hmi : (m : Int) = (p : Int) + (t.size : Int) - (l.length : Int) := by omega
  rw [hmi] at HR1
  clear hr h2 hg2 hr1 h1 hg1 hs1 hm hlen hpt hll hdrop hmi hbx
  have hd : decide ((l.length : Int) < (p : Int) + (t.size : Int)) = true := by simp; omega
  have hpl : (p : Int) ≤ ((p + t.size : Nat) : Int) := by omega
  have hpc : (p : Int) ≤ c1 := by omega
  have hpt2 : (p : Int) ≤ (p : Int) + (t.size : Int) := by omega
  generalize (l ++ List.replicate (p + t.size - l.length) (0 : UInt8)).take p ++ t.data.toList = L at *
  have HR1' := HR1.out
  go_enter Tryz.func125, Tryz.ntmps125
  go_wp2_with (at_builtin; refine Lib.wpList_append_run _ rfl _ _ _ _ rfl _ _ rfl rfl _ _ HR1' ?_)
  clear HR1'
  have HR' := HR.out
  go_wp2
  go_region_law (refine step_copy_run rfl (.tmp 25) (.tmp 27) 92 9 rfl _ _ (by simp [Act.eval, Act.put]) (by simp [Act.eval, Act.put]) HR' ?_)
  all_goals (clear HR'; try go_wp2)
  all_goals
    go_ret
    have hfin : w.grownBy w2 (blk (.slice a l.length c)) ∧ (blk (.slice a1 (p + t.size) c1) = blk (.slice a l.length c) ∨ ∀ k, blk (.slice a1 (p + t.size) c1) = some k → w.heap.size ≤ k) := by
      have g1 := HG1.out
      have g2 := HG.out
      refine ⟨⟨g2.os.trans g1.os, g2.tape.trans g1.tape, g2.output.trans g1.output, Nat.le_trans (show w.heap.size ≤ w1.heap.size by have := g1.size; simp at this; omega) g2.size, fun k hk hne => ?_⟩, ?_⟩
      · refine (g2.block k (by have := g1.size; simp at this; show k < w1.heap.size; omega) ?_).trans ((g1.block k (by simp; omega) hne).trans (Below.heap_alloc w _ k hk))
        rcases HS.out with e | e
        · rw [e]; exact hne
        · rw [e]; simp; omega
      · rcases HS.out with e | e
        · exact .inl e
        · exact .inr fun k hk => by rw [e] at hk; simp at hk; omega
    first
      | exact ⟨_, rfl, HW.out, hfin.1, hfin.2⟩
      | (have e1 : c1 = p := by assumption
         subst e1
         exact ⟨_, rfl, HW.out, hfin.1, hfin.2⟩)
/-- apply: what it makes of a row. -/
theorem app_in {l : List UInt8} {p : Nat} {t : ByteArray} (o : Nat) (hp : p + t.size ≤ l.length) : app l ⟨o, false, p, t⟩ = l.take p ++ t.data.toList ++ l.drop (p + t.size) := by
  unfold app; simp; omega
theorem app_out {l : List UInt8} {p : Nat} {t : ByteArray} (o : Nat) (hp : l.length < p + t.size) : app l ⟨o, false, p, t⟩ = (l ++ List.replicate (p + t.size - l.length) 0).take p ++ t.data.toList := by
  unfold app
  simp only [Bool.false_eq_true, if_false]
  rw [List.drop_eq_nil_of_le (by omega), List.append_nil]
  congr 1
  rw [List.take_append, List.take_replicate]
  congr 2; omega
theorem apply_any (o : Nat) (p : Nat) (t : ByteArray) (v : Value) (l : List UInt8) (w : World) (h : Row w 5 1 v l.length (bcells l)) (hl : l.length ≤ 4194304) (hp : p + t.size ≤ 4194304) :
    Calls Tryz.prog 125 #[.agg #[.int .i64 o, .bool false, .int .i64 p, .string t], v] w (Handed w v (app l ⟨o, false, p, t⟩)) := by
  obtain ⟨a, c, rfl, _⟩ := h.cells
  by_cases hpl : p + t.size ≤ l.length
  · rw [app_in o hpl]; exact apply_in o p t a c l w h hpl hl
  · rw [app_out o (by omega)]; exact apply_out o p t a c l w h (by omega) hp
end Go.Proofs.YtpkhghjmelgpeaaGreat.Wk
