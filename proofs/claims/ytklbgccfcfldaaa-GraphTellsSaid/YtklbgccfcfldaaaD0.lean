/- The zero value of a heap, and the operation that makes it. -/
import Derived.Test.YtklbgccfcfldaaaP
import Derived.Handy
import Derived.OwnWalk
set_option linter.unusedVariables false
namespace Go.Proofs.Ytklbgccfcfldaaa.Wk
open Go.ChangeShapes Go.WideShapes Go.ChangeAt Go.RowKit M

theorem wp_build0 {P : Program} (w : World) {o : Oper} {a : Act} {K : Act → World → Prop} {Q : Exit → Act → World → Prop} (t : TypeId)
    (ho : o.op = .build t #[]) (v : Value) (hr : (Instr.build t #[]).run P w = .ok v w) (h : K (a.put o.dst v) w) : o.wp P a w K Q := by
  unfold Oper.wp execOp
  simp only [ho, Sem.run_bind, Sem.run_pure, Result.andThen_ok, List.map_toArray, List.map_nil, hr]
  exact h
theorem wpList_build0 {P : Program} (w : World) {ops : Array Oper} {rest : List Oper} {o : Oper} {a : Act} {Q : Exit → Act → World → Prop} (hgd : o.guard = none) (t : TypeId)
    (ho : o.op = .build t #[]) (v : Value) (hr : (Instr.build t #[]).run P w = .ok v w) (h : wpList P ops Q rest (a.put o.dst v) w) : wpList P ops Q (o :: rest) a w :=
  wpList_plain hgd fun _ hK => wp_build0 w t ho v hr (hK _ _ h)

def zOf (P : Program) (t : TypeId) : Array Value := match P.info? t with
  | some i => (match i.zero with | some z => z.cells | none => #[])
  | none => #[]
/-- The zero cells, by their places. -/
def zc (i : Nat) : Value :=
  if i = 0 then .slice none 0 0 else if i = 1 then .slice none 0 0
  else if i < 26 then (if (i - 2) % 4 = 3 then .map none else .int .i64 0)
  else if i = 26 then .slice none 0 0 else if i = 27 then .slice none 0 0 else if i = 28 then .map none
  else if i < 93 then .int .u64 0 else if i < 4189 then .int .u64 0
  else if i = 4189 then .slice none 0 0 else if i = 4190 then .slice none 0 0 else .int .i64 0
set_option maxRecDepth 100000 in
theorem zHeap_list : (zOf Try.prog 71).toList = (List.range 4192).map zc := by kernel_rfl
theorem zHeap_size : (zOf Try.prog 71).size = 4192 := by kernel_rfl
theorem zHeap_is : (Try.prog.info? 71).map (fun i => i.zero.isSome) = some true := by kernel_rfl
theorem run_build_heap (w : World) : (Instr.build 71 #[]).run Try.prog w = .ok (.agg (zOf Try.prog 71)) w := by
  have h := zHeap_is
  obtain ⟨i, hi⟩ : ∃ i, Try.prog.info? 71 = some i := by
    cases e : Try.prog.info? 71 with
    | none => rw [e] at h; cases h
    | some i => exact ⟨i, rfl⟩
  rw [hi] at h
  obtain ⟨z, hz⟩ : ∃ z, i.zero = some z := by
    cases e : i.zero with
    | none => simp [e] at h
    | some z => exact ⟨z, rfl⟩
  have hzo : zOf Try.prog 71 = z.cells := by unfold zOf; rw [hi]; simp only; rw [hz]
  rw [hzo]
  obtain ⟨i0, h0⟩ := Option.isSome_iff_exists.1 (show (Try.prog.info? 42).isSome = true by kernel_rfl)
  obtain ⟨i1, h1⟩ := Option.isSome_iff_exists.1 (show (Try.prog.info? 62).isSome = true by kernel_rfl)
  obtain ⟨i2, h2⟩ := Option.isSome_iff_exists.1 (show (Try.prog.info? 64).isSome = true by kernel_rfl)
  obtain ⟨i3, h3⟩ := Option.isSome_iff_exists.1 (show (Try.prog.info? 67).isSome = true by kernel_rfl)
  obtain ⟨i4, h4⟩ := Option.isSome_iff_exists.1 (show (Try.prog.info? 68).isSome = true by kernel_rfl)
  obtain ⟨i5, h5⟩ := Option.isSome_iff_exists.1 (show (Try.prog.info? 69).isSome = true by kernel_rfl)
  obtain ⟨i6, h6⟩ := Option.isSome_iff_exists.1 (show (Try.prog.info? 31).isSome = true by kernel_rfl)
  obtain ⟨i7, h7⟩ := Option.isSome_iff_exists.1 (show (Try.prog.info? 3).isSome = true by kernel_rfl)
  simp [Instr.build, Instr.fill, zeroValue, typeInfo, sizeOf, hi, hz, run_underlying Try.underlying71, h0, h1, h2, h3, h4, h5, h6, h7]
end Go.Proofs.Ytklbgccfcfldaaa.Wk
