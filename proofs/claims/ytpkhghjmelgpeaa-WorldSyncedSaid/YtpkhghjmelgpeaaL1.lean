/- WorldSynced, for the frame. -/
import Derived.Test.YtpkhghjmelgpeaaW38
set_option linter.unusedVariables false
namespace Go.Proofs.Ytpkhghjmelgpeaa.Wk
open Go.ChangeShapes Go.WideShapes Go.ChangeAt Go.RowKit M Go.Maps Go.Proofs

set_option maxRecDepth 100000 in
theorem WorldSynced_walk {H : Type} {enc : TypeId × Value → H} {base : Nat} {d : DataW H} {p : List MemPlace} (v : Value) (from_ to_ text : ByteArray) (a : Int) (w : World) (hv : Value.okWide Try.prog w .any base 22 v) (h : DataW.Trod enc Try.prog w 0 (fun _ => true) true 22 v d p) (hf : from_.size ≤ maxLen) (ht : to_.size ≤ maxLen) (hx : text.size ≤ maxLen) (ha : (Lit.int .u64 a).wf = true) :
    Calls Try.prog 3 #[v, .string from_, .string to_, .string text, .int .u64 a] w fun e w' => e = .returned (.bool true) ∧ Below w.heap.size w w' := by
  obtain ⟨F, h1, h2, h3⟩ := open_files hv h
  obtain ⟨a1, a2⟩ := bounds_u64 ha
  have := WorldSynced_in F v from_ to_ text a.toNat w h1 h2 h3 hf ht hx (by omega)
  rw [show ((a.toNat : Nat) : Int) = a from by omega] at this
  exact this
end Go.Proofs.Ytpkhghjmelgpeaa.Wk
