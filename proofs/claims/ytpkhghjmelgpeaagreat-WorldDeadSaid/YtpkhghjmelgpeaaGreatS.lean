/- Blocks that are labelled by what they belong to: what keeps a piece as it is. -/
import Derived.Test.YtpkhghjmelgpeaaGreatR
import Derived.Test.YtpkhghjmelgpeaaGreatM
import Derived.Maps.OwnSet
import Derived.Maps.RangeWalk
set_option linter.unusedVariables false
namespace Go.Proofs.YtpkhghjmelgpeaaGreat.Wk
open Go.RowKit M

/-- Whose a block is: the world's own cells, its choices, its trace, its maps of files and of handles; a file's cells and rows; a handle. -/
inductive Lab where
  | w | ch | tr | fm | hm
  | f (i j : Nat)
  | h (n : Nat)
abbrev Own := Nat → Option Lab
def lab (own : Own) (v : Value) (l : Lab) : Prop := ∀ k, blk v = some k → own k = some l
def Own.new (own : Own) (b : Nat) (l : Lab) : Own := fun k => if k = b then some l else own k
def Own.newV (own : Own) (v : Value) (l : Lab) : Own := fun k => if blk v = some k then some l else own k

/-- The blocks that bear a label are as they were. -/
def Kept (own : Own) (P : Lab → Prop) (w w' : World) : Prop := ∀ k l, own k = some l → P l → w'.heap[k]? = w.heap[k]?
/-- own' says of old blocks what own says. -/
def More (w : World) (own own' : Own) : Prop := ∀ k l, own k = some l → own' k = some l

def noE : Nat → Prop := fun _ => False
/-- From w to w': no block that was there and bears no label has changed (but ex); labels of old blocks stay. -/
structure Fr (own : Own) (w : World) (own' : Own) (w' : World) (ex : Nat → Prop) : Prop where
  os : w'.os = w.os
  tape : w'.tape = w.tape
  output : w'.output = w.output
  size : w.heap.size ≤ w'.heap.size
  old : ∀ k, k < w.heap.size → own' k = own k
  kept : ∀ k, k < w.heap.size → own k = none → ¬ ex k → w'.heap[k]? = w.heap[k]?

theorem Fr.refl (own : Own) (w : World) (ex : Nat → Prop) : Fr own w own w ex := ⟨rfl, rfl, rfl, Nat.le_refl _, fun _ _ => rfl, fun _ _ _ _ => rfl⟩
theorem Fr.trans {o1 o2 o3 : Own} {w1 w2 w3 : World} {ex : Nat → Prop} (a : Fr o1 w1 o2 w2 ex) (b : Fr o2 w2 o3 w3 ex) : Fr o1 w1 o3 w3 ex :=
  ⟨b.os.trans a.os, b.tape.trans a.tape, b.output.trans a.output, Nat.le_trans a.size b.size,
   fun k hk => (b.old k (Nat.lt_of_lt_of_le hk a.size)).trans (a.old k hk),
   fun k hk h1 h2 => (b.kept k (Nat.lt_of_lt_of_le hk a.size) ((a.old k hk).trans h1) h2).trans (a.kept k hk h1 h2)⟩
theorem Fr.mono {o1 o2 : Own} {w1 w2 : World} {ex ex' : Nat → Prop} (a : Fr o1 w1 o2 w2 ex) (h : ∀ k, k < w1.heap.size → ex k → ex' k) : Fr o1 w1 o2 w2 ex' :=
  ⟨a.os, a.tape, a.output, a.size, a.old, fun k hk h1 h2 => a.kept k hk h1 (fun e => h2 (h k hk e))⟩
/-- Blocks made meanwhile may be changed later. -/
theorem Fr.drop {o1 o2 : Own} {w1 w2 : World} {ex ex' : Nat → Prop} (a : Fr o1 w1 o2 w2 ex) (hx : ∀ k, ex k → w1.heap.size ≤ k) : Fr o1 w1 o2 w2 ex' :=
  a.mono fun k hk e => absurd (hx k e) (by omega)
theorem Fr.weak {o1 o2 : Own} {w1 w2 : World} (a : Fr o1 w1 o2 w2 noE) (ex : Nat → Prop) : Fr o1 w1 o2 w2 ex := a.mono fun _ _ e => e.elim
theorem Fr.of_below {own : Own} {w w' : World} {B : Nat} (h : Below B w w') (hB : w.heap.size ≤ B) (ex : Nat → Prop) : Fr own w own w' ex :=
  ⟨h.os, h.tape, h.output, h.size, fun _ _ => rfl, fun k hk _ _ => h.block k (Nat.lt_of_lt_of_le hk hB)⟩
theorem Fr.below {own own' : Own} {w w' : World} {B : Nat} (h : Fr own w own' w' noE) (hB : B ≤ w.heap.size) (hl : ∀ k, k < B → own k = none) : Below B w w' :=
  ⟨h.os, h.tape, h.output, h.size, fun k hk => h.kept k (Nat.lt_of_lt_of_le hk hB) (hl k hk) (fun e => e)⟩
theorem Fr.more {own own' : Own} {w w' : World} {ex : Nat → Prop} (h : Fr own w own' w' ex) (ho : ∀ k, own k ≠ none → k < w.heap.size) : More w own own' := fun k l e => (h.old k (ho k (by rw [e]; simp))).trans e

def Owns (own : Own) (w : World) : Prop := ∀ k, own k ≠ none → k < w.heap.size

/-! ### reading a block -/
theorem cell_blk {w : World} {b : Nat} {cs : Array Value} {e : TypeId} {fz : Nat × Nat} (h : w.heap[b]? = some (.cells cs e fz)) (o : Nat) : w.cell? ⟨b, o, none⟩ = cs[o]? := by
  simp [World.cell?, h]
theorem frozen_blk {w : World} {b : Nat} {cs : Array Value} {e : TypeId} (h : w.heap[b]? = some (.cells cs e (0, 0))) (o : Nat) : w.frozen? ⟨b, o, none⟩ = false := by
  simp [World.frozen?, h]
theorem blk_set {w : World} {b : Nat} {cs : Array Value} {e : TypeId} {fz : Nat × Nat} (h : w.heap[b]? = some (.cells cs e fz)) (o : Nat) (v : Value) :
    (w.setCell ⟨b, o, none⟩ v).heap[b]? = some (.cells (cs.setIfInBounds o v) e fz) := by
  show (w.heap.modify b _)[b]? = _
  rw [Array.getElem?_modify, if_pos rfl, h]; rfl
theorem blk_set_other (w : World) (b o k : Nat) (v : Value) (h : k ≠ b) : (w.setCell ⟨b, o, none⟩ v).heap[k]? = w.heap[k]? := Below.heap_setCell w ⟨b, o, none⟩ v k h
theorem blk_lt {w : World} {b : Nat} {o : Obj} (h : w.heap[b]? = some o) : b < w.heap.size := (Array.getElem?_eq_some_iff.1 h).1

theorem ownsMap_kept {H : Type} {P : Program} {k : TypeId} {R : Value → Option (DataW H × List MemPlace)} {w w' : World} {b n : Nat} {D : DataW H} (h : w.ownsMap P k R b n D) (hb : w'.heap[b]? = w.heap[b]?) : w'.ownsMap P k R b n D := by
  obtain ⟨es, clock, h1, F, hs, hD⟩ := h
  exact ⟨es, clock, hb.trans h1, F, hs, hD⟩

/-! ### what is laid where -/
def bcells (l : List UInt8) : List Value := l.map fun b => .int .u8 b.toNat
def chcells (c : Ch) : List Value := [.int .u8 c.kind, .int .i64 c.n, .string c.text]
def ddcells (d : Dd) : List Value := [.int .u8 d.kind, .int .i64 d.handle, .string d.text, .string d.to, .int .i64 d.n, .int .i64 d.err]
def wrcells (c : Wr) : List Value := [.int .i64 c.ord, .bool c.emp, .int .i64 c.at_, .string c.text]
theorem bcells_len (l : List UInt8) : (bcells l).length = l.length := by simp [bcells]

structure FileR (own : Own) (w : World) (b i : Nat) (f : Fs) : Prop where
  mine : own b = some (.f i 0)
  cells : ∃ bv sv uv, w.heap[b]? = some (.cells #[bv, sv, uv] 121 (0, 0)) ∧ Row w 5 1 bv f.now.length (bcells f.now) ∧ lab own bv (.f i 1) ∧
    Row w 5 1 sv f.base.length (bcells f.base) ∧ lab own sv (.f i 2) ∧ Row w 149 4 uv f.uns.length (f.uns.flatMap wrcells) ∧ lab own uv (.f i 3)

theorem FileR.kept {own own' : Own} {w w' : World} {b i : Nat} {f : Fs} (h : FileR own w b i f) (hm : More w own own') (hk : Kept own (fun l => ∃ j, l = .f i j) w w') : FileR own' w' b i f := by
  obtain ⟨ho, bv, sv, uv, h1, h2, h3, h4, h5, h6, h7⟩ := h
  refine ⟨hm _ _ ho, bv, sv, uv, (hk b _ ho ⟨0, rfl⟩).trans h1, h2.kept fun k e => hk k _ (h3 k e) ⟨1, rfl⟩, fun k e => hm _ _ (h3 k e), h4.kept fun k e => hk k _ (h5 k e) ⟨2, rfl⟩, fun k e => hm _ _ (h5 k e), h6.kept fun k e => hk k _ (h7 k e) ⟨3, rfl⟩, fun k e => hm _ _ (h7 k e)⟩
end Go.Proofs.YtpkhghjmelgpeaaGreat.Wk
