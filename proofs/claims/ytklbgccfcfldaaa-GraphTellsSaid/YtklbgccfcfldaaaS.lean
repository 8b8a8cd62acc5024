/- Blocks that are labelled by the heap that they belong to, and by what they are in it: what keeps a heap as it is. -/
import Derived.Test.YtklbgccfcfldaaaR
import Derived.Test.YtklbgccfcfldaaaM
import Derived.Maps.OwnSet
import Derived.Maps.RangeWalk
set_option linter.unusedVariables false
namespace Go.Proofs.Ytklbgccfcfldaaa.Wk
open Go.RowKit M

inductive Kd where
  | hp | wd | sb | gp | nl | np | sk | qu
  | fw (i : Nat)
/-- Whose a block is: of the heap at p, its piece k. -/
structure Lab where
  p : Nat
  k : Kd
abbrev Own := Nat → Option Lab
def lab (own : Own) (v : Value) (l : Lab) : Prop := ∀ k, blk v = some k → own k = some l
def Own.new (own : Own) (b : Nat) (l : Lab) : Own := fun k => if k = b then some l else own k
def Own.newV (own : Own) (v : Value) (l : Lab) : Own := fun k => if blk v = some k then some l else own k

/-- The heap's own blocks are as they were. -/
def Kept (p : Nat) (own : Own) (w w' : World) : Prop := ∀ k l, own k = some l → l.p = p → w'.heap[k]? = w.heap[k]?
/-- own' says of old blocks what own says. -/
def More (own own' : Own) : Prop := ∀ k l, own k = some l → own' k = some l
def Owns (own : Own) (w : World) : Prop := ∀ k, own k ≠ none → k < w.heap.size

def noE : Nat → Prop := fun _ => False
/-- From w to w': what is not of the heap at p has not changed (but ex); labels of old blocks stay; new ones are p's. -/
structure Fr (p : Nat) (own : Own) (w : World) (own' : Own) (w' : World) (ex : Nat → Prop) : Prop where
  os : w'.os = w.os
  tape : w'.tape = w.tape
  output : w'.output = w.output
  size : w.heap.size ≤ w'.heap.size
  old : ∀ k, k < w.heap.size → own' k = own k
  new : ∀ k l, w.heap.size ≤ k → own' k = some l → l.p = p ∨ own k = some l
  kept : ∀ k, k < w.heap.size → (∀ l, own k = some l → l.p ≠ p) → ¬ ex k → w'.heap[k]? = w.heap[k]?

theorem Fr.refl (p : Nat) (own : Own) (w : World) (ex : Nat → Prop) : Fr p own w own w ex := ⟨rfl, rfl, rfl, Nat.le_refl _, fun _ _ => rfl, fun _ _ _ h => .inr h, fun _ _ _ _ => rfl⟩
theorem Fr.trans {p : Nat} {o1 o2 o3 : Own} {w1 w2 w3 : World} {ex : Nat → Prop} (a : Fr p o1 w1 o2 w2 ex) (b : Fr p o2 w2 o3 w3 ex) : Fr p o1 w1 o3 w3 ex :=
  ⟨b.os.trans a.os, b.tape.trans a.tape, b.output.trans a.output, Nat.le_trans a.size b.size,
   fun k hk => (b.old k (Nat.lt_of_lt_of_le hk a.size)).trans (a.old k hk),
   fun k l hk h => by
     by_cases hk2 : k < w2.heap.size
     · exact a.new k l hk (by rw [← b.old k hk2]; exact h)
     · rcases b.new k l (by omega) h with h1 | h1
       · exact .inl h1
       · exact a.new k l hk h1,
   fun k hk h1 h2 => (b.kept k (Nat.lt_of_lt_of_le hk a.size) (fun l e => h1 l ((a.old k hk).symm.trans e)) h2).trans (a.kept k hk h1 h2)⟩
theorem Fr.mono {p : Nat} {o1 o2 : Own} {w1 w2 : World} {ex ex' : Nat → Prop} (a : Fr p o1 w1 o2 w2 ex) (h : ∀ k, k < w1.heap.size → ex k → ex' k) : Fr p o1 w1 o2 w2 ex' :=
  ⟨a.os, a.tape, a.output, a.size, a.old, a.new, fun k hk h1 h2 => a.kept k hk h1 (fun e => h2 (h k hk e))⟩
/-- Blocks made meanwhile may be changed later. -/
theorem Fr.drop {p : Nat} {o1 o2 : Own} {w1 w2 : World} {ex ex' : Nat → Prop} (a : Fr p o1 w1 o2 w2 ex) (hx : ∀ k, ex k → w1.heap.size ≤ k) : Fr p o1 w1 o2 w2 ex' :=
  a.mono fun k hk e => absurd (hx k e) (by omega)
theorem Fr.weak {p : Nat} {o1 o2 : Own} {w1 w2 : World} (a : Fr p o1 w1 o2 w2 noE) (ex : Nat → Prop) : Fr p o1 w1 o2 w2 ex := a.mono fun _ _ e => e.elim
theorem Fr.of_below {p : Nat} {own : Own} {w w' : World} {B : Nat} (h : Below B w w') (hB : w.heap.size ≤ B) (ex : Nat → Prop) : Fr p own w own w' ex :=
  ⟨h.os, h.tape, h.output, h.size, fun _ _ => rfl, fun _ _ _ e => .inr e, fun k hk _ _ => h.block k (Nat.lt_of_lt_of_le hk hB)⟩
theorem Fr.below {p : Nat} {own own' : Own} {w w' : World} {B : Nat} (h : Fr p own w own' w' noE) (hB : B ≤ w.heap.size) (hl : ∀ k, k < B → own k = none) : Below B w w' :=
  ⟨h.os, h.tape, h.output, h.size, fun k hk => h.kept k (Nat.lt_of_lt_of_le hk hB) (fun l e => by rw [hl k hk] at e; cases e) (fun e => e)⟩
theorem Fr.more {p : Nat} {own own' : Own} {w w' : World} {ex : Nat → Prop} (h : Fr p own w own' w' ex) (ho : Owns own w) : More own own' := fun k l e => (h.old k (ho k (by rw [e]; simp))).trans e
theorem More.refl (own : Own) : More own own := fun _ _ e => e

/-! ### reading a block -/
theorem cell_blk {w : World} {b : Nat} {cs : Array Value} {e : TypeId} {fz : Nat × Nat} (h : w.heap[b]? = some (.cells cs e fz)) (o : Nat) : w.cell? ⟨b, o, none⟩ = cs[o]? := by
  simp [World.cell?, h]
theorem frozen_blk {w : World} {b : Nat} {cs : Array Value} {e : TypeId} (h : w.heap[b]? = some (.cells cs e (0, 0))) (o : Nat) : w.frozen? ⟨b, o, none⟩ = false := by
  simp [World.frozen?, h]
theorem blk_set {w : World} {b : Nat} {cs : Array Value} {e : TypeId} {fz : Nat × Nat} (h : w.heap[b]? = some (.cells cs e fz)) (o : Nat) (v : Value) :
    (w.setCell ⟨b, o, none⟩ v).heap[b]? = some (.cells (cs.setIfInBounds o v) e fz) := by
  show (w.heap.modify b _)[b]? = _
  rw [Array.getElem?_modify, if_pos rfl, h]; rfl
theorem blk_set_other (w : World) (b o k : Nat) (v : Value) (h : k ≠ b) : (w.setCell ⟨b, o, none⟩ v).heap[k]? = w.heap[k]? := Below.heap_setCell w ⟨b, o, none⟩ v k h
theorem blk_lt {w : World} {b : Nat} {o : Obj} (h : w.heap[b]? = some o) : b < w.heap.size := (Array.getElem?_eq_some_iff.1 h).1
theorem ownsMap_kept {H : Type} {P : Program} {k : TypeId} {R : Value → Option (DataW H × List MemPlace)} {w w' : World} {b n : Nat} {D : DataW H} (h : w.ownsMap P k R b n D) (hb : w'.heap[b]? = w.heap[b]?) : w'.ownsMap P k R b n D := by
  obtain ⟨es, clock, h1, F, hs, hD⟩ := h
  exact ⟨es, clock, hb.trans h1, F, hs, hD⟩
theorem owns_none {own : Own} {w : World} (h : Owns own w) {k : Nat} (hk : w.heap.size ≤ k) : own k = none := by
  cases e : own k with
  | none => rfl
  | some l => exact absurd (h k (by rw [e]; simp)) (by omega)
theorem Owns.mono {own : Own} {w w' : World} (h : Owns own w) (hs : w.heap.size ≤ w'.heap.size) : Owns own w' := fun k hk => Nat.lt_of_lt_of_le (h k hk) hs
end Go.Proofs.Ytklbgccfcfldaaa.Wk
