/- What it is that a heap stands in memory: the program's own representation. -/
import Derived.Test.YtklbgccfcfldaaaRows
import Derived.Test.YtklbgccfcfldaaaS
import Derived.WalkKit
import Derived.ProofKit
import Derived.OpenShut
import Derived.WalkLawsBesides
import Derived.WalkSpells
import Derived.Lib.Hide
set_option linter.unusedVariables false
namespace Go.Proofs.Ytklbgccfcfldaaa.Wk
open Go.ChangeShapes Go.WideShapes Go.ChangeAt Go.RowKit M

/-- What the plain data leave open: where the pieces lie. -/
structure Gh where
  wb : Nat
  sb : Nat
  gv : Value
  nl : Value
  np : Option Nat
  nk : Nat
  nD : DataW Unit
  kv : Value
  qv : Value
  fb : Nat → Nat
  fk : Nat → Nat
  fD : Nat → DataW Unit

/-- The bits of so many places. -/
def bitsN (f : Nat → Bool) : Nat → Nat
  | 0 => 0
  | k + 1 => bitsN f k + if f k then 2 ^ k else 0
theorem bitsN_lt (f : Nat → Bool) : ∀ k, bitsN f k < 2 ^ k
  | 0 => by simp [bitsN]
  | k + 1 => by have := bitsN_lt f k; simp only [bitsN]; split <;> rw [Nat.pow_succ] <;> omega
theorem bitsN_test (f : Nat → Bool) : ∀ k j, (bitsN f k).testBit j = (decide (j < k) && f j)
  | 0, j => by simp [bitsN]
  | k + 1, j => by
    have hl := bitsN_lt f k
    have ih := bitsN_test f k j
    simp only [bitsN]
    by_cases hk : f k
    · rw [if_pos hk, Nat.add_comm]
      by_cases hj : j = k
      · subst hj
        rw [Nat.testBit_two_pow_add_eq, ih]; simp [hk]
      · by_cases hj2 : j < k
        · rw [Nat.testBit_two_pow_add_gt hj2, ih]; simp [hj2]; omega
        · have : ¬ j < k + 1 := by omega
          simp only [this, decide_false, Bool.false_and]
          refine Nat.testBit_lt_two_pow ?_
          have : 2 ^ (k + 1) ≤ 2 ^ j := Nat.pow_le_pow_right (by omega) (by omega)
          rw [Nat.pow_succ] at this; omega
    · rw [if_neg hk, Nat.add_zero, ih]
      by_cases hj : j = k
      · subst hj; simp [hk]
      · congr 1; simp; omega
theorem bitsN_ext {f g : Nat → Bool} {k : Nat} (h : ∀ j, j < k → f j = g j) : bitsN f k = bitsN g k := by
  induction k with
  | zero => rfl
  | succ k ih => simp only [bitsN]; rw [ih fun j hj => h j (by omega), h k (by omega)]
/-- The word of bits of 64 places. -/
def bitsOf (st : Nat → Bool) (k : Nat) : Nat := bitsN (fun j => st (64 * k + j)) 64
theorem bitsOf_lt (st : Nat → Bool) (k : Nat) : bitsOf st k < 18446744073709551616 := bitsN_lt _ 64
theorem bitsOf_test (st : Nat → Bool) (a : Nat) : (bitsOf st (a / 64)).testBit (a % 64) = st a := by
  unfold bitsOf
  rw [bitsN_test]
  have : 64 * (a / 64) + a % 64 = a := by omega
  rw [this]; simp; omega
theorem bitsOf_set (st : Nat → Bool) (a : Nat) : bitsOf (upd st a true) (a / 64) = bitsOf st (a / 64) ||| 2 ^ (a % 64) := by
  refine Nat.eq_of_testBit_eq fun j => ?_
  unfold bitsOf
  rw [Nat.testBit_or, bitsN_test, bitsN_test, Nat.testBit_two_pow]
  by_cases hj : j < 64
  · by_cases hja : a % 64 = j
    · have : 64 * (a / 64) + j = a := by omega
      simp [hj, hja, this, upd_same]
    · have : 64 * (a / 64) + j ≠ a := by omega
      simp [hj, hja, upd_other _ _ _ _ this]
  · have : ¬ a % 64 = j := by omega
    simp [hj, this]
theorem bitsOf_other (st : Nat → Bool) (a k : Nat) (v : Bool) (h : k ≠ a / 64) : bitsOf (upd st a v) k = bitsOf st k := by
  refine bitsN_ext fun j hj => ?_
  exact upd_other _ _ _ _ (by omega)

def areaCell (g : Gh) (s : Hp) (i j : Nat) : Value :=
  if j = 0 then .int .i64 (s.ar i).b else if j = 1 then .int .i64 (s.ar i).t else if j = 2 then .int .i64 (s.ar i).e else .map (some (g.fb i))
def cellAt (g : Gh) (s : Hp) (i : Nat) : Value :=
  if i = 0 then .slice (some ⟨g.wb, 0, none⟩) s.n s.n
  else if i = 1 then .slice (some ⟨g.sb, 0, none⟩) ((s.n + 63) / 64) ((s.n + 63) / 64)
  else if i < 26 then areaCell g s ((i - 2) / 4) ((i - 2) % 4)
  else if i = 26 then g.gv else if i = 27 then g.nl else if i = 28 then .map g.np
  else if i < 93 then .int .u64 (s.spec.getD (i - 29) 0)
  else if i < 4189 then .int .u64 (s.cls.getD (i - 93) 0)
  else if i = 4189 then g.kv else if i = 4190 then g.qv else .int .i64 s.given
def hcells (g : Gh) (s : Hp) : Array Value := Array.ofFn (n := 4192) fun i => cellAt g s i
def wcells (s : Hp) : Array Value := Array.ofFn (n := s.n) fun i => .int .u64 (s.mem i)
def scells (s : Hp) : Array Value := Array.ofFn (n := (s.n + 63) / 64) fun i => .int .u64 (bitsOf s.st i)
theorem hcells_get (g : Gh) (s : Hp) (i : Nat) (h : i < 4192) : (hcells g s)[i]? = some (cellAt g s i) := by
  unfold hcells; rw [Array.getElem?_ofFn]; simp [h]
theorem wcells_get (s : Hp) (i : Nat) (h : i < s.n) : (wcells s)[i]? = some (.int .u64 (s.mem i)) := by
  unfold wcells; rw [Array.getElem?_ofFn]; simp [h]
theorem scells_get (s : Hp) (i : Nat) (h : i < (s.n + 63) / 64) : (scells s)[i]? = some (.int .u64 (bitsOf s.st i)) := by
  unfold scells; rw [Array.getElem?_ofFn]; simp [h]
theorem ofFn_set {n : Nat} (f f' : Nat → Value) (i : Nat) (v : Value) (h : ∀ j, j < n → f' j = if j = i then v else f j) :
    (Array.ofFn (n := n) fun k => f k).setIfInBounds i v = Array.ofFn (n := n) fun k => f' k := by
  apply Array.ext
  · simp
  · intro j h1 h2
    have hj : j < n := by simpa using h2
    rw [Array.getElem_setIfInBounds]
    · simp only [Array.getElem_ofFn]
      rw [h j hj]
      by_cases e : j = i
      · simp [e]
      · rw [if_neg e, if_neg (fun x => e x.symm)]; exact Array.getElem_ofFn _
    · simpa using hj

/-- Readings of the maps' elements. -/
def Ro : Value → Option (DataW Unit × List MemPlace)
  | .int .u64 v => some (.lit (.int .u64 v), [])
  | _ => none
def Ri : Value → Option (DataW Unit × List MemPlace)
  | .int .i64 v => some (.lit (.int .i64 v), [])
  | _ => none
def okey (o : Int) : Lit := .int .u64 o
def ocells (l : List Int) : List Value := l.map fun v => .int .u64 v
def gcells (l : List (Nat × Nat)) : List Value := l.flatMap fun x => [.int .i64 x.1, .int .i64 x.2]
theorem ocells_len (l : List Int) : (ocells l).length = l.length := by simp [ocells]

structure FwMap (D : DataW Unit) (f : Int → Option Int) : Prop where
  at_ : ∀ o : Int, (okey o).wf = true → D.atKey (okey o) .nil = (match f o with | none => .nil | some v => .lit (.int .u64 v)) ∧ Maps.has D (okey o) = (f o).isSome
/-- The places of the noted ones. -/
structure NpMap (D : DataW Unit) (l : List Int) : Prop where
  at_ : ∀ o : Int, (okey o).wf = true → o ≠ 0 → D.atKey (okey o) .nil = (match l.findIdx? (· == o) with | none => .nil | some i => .lit (.int .i64 i)) ∧ Maps.has D (okey o) = (l.findIdx? (· == o)).isSome
  size : Maps.size D = (l.filter (· != 0)).length

structure Rep (own : Own) (w : World) (p : Nat) (s : Hp) (g : Gh) : Prop where
  owns : Owns own w
  hown : own p = some ⟨p, .hp⟩
  hcell : w.heap[p]? = some (.cells (hcells g s) 71 (0, 0))
  wown : own g.wb = some ⟨p, .wd⟩
  wcell : w.heap[g.wb]? = some (.cells (wcells s) 32 (0, 0))
  sown : own g.sb = some ⟨p, .sb⟩
  scell : w.heap[g.sb]? = some (.cells (scells s) 32 (0, 0))
  grow : Row w 76 2 g.gv s.gaps.length (gcells s.gaps)
  gown : lab own g.gv ⟨p, .gp⟩
  nrow : Row w 33 1 g.nl s.noted.length (ocells s.noted)
  nown : lab own g.nl ⟨p, .nl⟩
  nnil : g.np = none → s.noted = []
  nmap : ∀ b, g.np = some b → own b = some ⟨p, .np⟩ ∧ w.ownsMap Try.prog 33 Ri b g.nk g.nD ∧ NpMap g.nD s.noted
  krow : Row w 33 1 g.kv s.stack.length (ocells s.stack)
  kown : lab own g.kv ⟨p, .sk⟩
  qrow : Row w 33 1 g.qv s.queue.length (ocells s.queue)
  qown : lab own g.qv ⟨p, .qu⟩
  fmap : ∀ i, 0 ≤ i → i ≤ 5 → own (g.fb i) = some ⟨p, .fw i⟩ ∧ w.ownsMap Try.prog 33 Ro (g.fb i) (g.fk i) (g.fD i) ∧ FwMap (g.fD i) (s.fw i)
  w0 : Wf0 s

/-- Where no block of the heap has changed it stands as it stood. -/
theorem Rep.kept {own own' : Own} {w w' : World} {p : Nat} {s : Hp} {g : Gh} (h : Rep own w p s g) (ho : Owns own' w') (hm : More own own') (hk : Kept p own w w') : Rep own' w' p s g where
  owns := ho
  hown := hm _ _ h.hown
  hcell := (hk _ _ h.hown rfl).trans h.hcell
  wown := hm _ _ h.wown
  wcell := (hk _ _ h.wown rfl).trans h.wcell
  sown := hm _ _ h.sown
  scell := (hk _ _ h.sown rfl).trans h.scell
  grow := h.grow.kept fun k e => hk k _ (h.gown k e) rfl
  gown := fun k e => hm _ _ (h.gown k e)
  nrow := h.nrow.kept fun k e => hk k _ (h.nown k e) rfl
  nown := fun k e => hm _ _ (h.nown k e)
  nnil := h.nnil
  nmap := fun b e => ⟨hm _ _ (h.nmap b e).1, ownsMap_kept (h.nmap b e).2.1 (hk _ _ (h.nmap b e).1 rfl), (h.nmap b e).2.2⟩
  krow := h.krow.kept fun k e => hk k _ (h.kown k e) rfl
  kown := fun k e => hm _ _ (h.kown k e)
  qrow := h.qrow.kept fun k e => hk k _ (h.qown k e) rfl
  qown := fun k e => hm _ _ (h.qown k e)
  fmap := fun i h1 h2 => ⟨hm _ _ (h.fmap i h1 h2).1, ownsMap_kept (h.fmap i h1 h2).2.1 (hk _ _ (h.fmap i h1 h2).1 rfl), (h.fmap i h1 h2).2.2⟩
  w0 := h.w0
theorem Rep.below {own : Own} {w w' : World} {p : Nat} {s : Hp} {g : Gh} {B : Nat} (h : Rep own w p s g) (hb : Below B w w') (hB : w.heap.size ≤ B) : Rep own w' p s g :=
  h.kept (fun k hk => Nat.lt_of_lt_of_le (h.owns k hk) hb.size) (More.refl _) fun k l e _ => hb.block k (Nat.lt_of_lt_of_le (h.owns k (by rw [e]; simp)) hB)
/-- Another heap's doings leave it. -/
theorem Rep.other {own own' : Own} {w w' : World} {p q : Nat} {s : Hp} {g : Gh} {ex : Nat → Prop} (h : Rep own w p s g) (hf : Fr q own w own' w' ex) (ho : Owns own' w') (hpq : p ≠ q) (hex : ∀ k, ex k → own k = none) : Rep own' w' p s g :=
  h.kept ho (hf.more h.owns) fun k l e hl => hf.kept k (h.owns k (by rw [e]; simp)) (fun l' e' => by rw [e] at e'; cases e'; rw [hl]; exact hpq) (fun x => by rw [hex k x] at e; cases e)

section
variable {own : Own} {w : World} {p : Nat} {s : Hp} {g : Gh}
theorem Rep.cell (h : Rep own w p s g) (i : Nat) (hi : i < 4192) : w.cell? ⟨p, i, none⟩ = some (cellAt g s i) := by rw [cell_blk h.hcell, hcells_get g s i hi]
theorem Rep.free (h : Rep own w p s g) (i : Nat) : w.frozen? ⟨p, i, none⟩ = false := frozen_blk h.hcell i
theorem Rep.word (h : Rep own w p s g) (i : Nat) (hi : i < s.n) : w.cell? ⟨g.wb, i, none⟩ = some (.int .u64 (s.mem i)) := by rw [cell_blk h.wcell, wcells_get s i hi]
theorem Rep.bits (h : Rep own w p s g) (i : Nat) (hi : i < (s.n + 63) / 64) : w.cell? ⟨g.sb, i, none⟩ = some (.int .u64 (bitsOf s.st i)) := by rw [cell_blk h.scell, scells_get s i hi]
theorem Rep.c0 (h : Rep own w p s g) : w.cell? ⟨p, 0, none⟩ = some (.slice (some ⟨g.wb, 0, none⟩) s.n s.n) := h.cell 0 (by omega)
theorem Rep.c1 (h : Rep own w p s g) : w.cell? ⟨p, 1, none⟩ = some (.slice (some ⟨g.sb, 0, none⟩) ((s.n + 63) / 64) ((s.n + 63) / 64)) := h.cell 1 (by omega)
theorem Rep.area (h : Rep own w p s g) (i j : Nat) (hi : i < 6) (hj : j < 4) : w.cell? ⟨p, 2 + i * 4 + j, none⟩ = some (areaCell g s i j) := by
  rw [h.cell _ (by omega)]
  unfold cellAt
  rw [if_neg (by omega), if_neg (by omega), if_pos (by omega)]
  congr 2 <;> omega
theorem Rep.ab (h : Rep own w p s g) (k : Nat) (hk : k < 6) : w.cell? ⟨p, 2 + k * 4, none⟩ = some (.int .i64 (s.ar k).b) := h.area k 0 hk (by omega)
theorem Rep.at_ (h : Rep own w p s g) (k : Nat) (hk : k < 6) : w.cell? ⟨p, 2 + k * 4 + 1, none⟩ = some (.int .i64 (s.ar k).t) := h.area k 1 hk (by omega)
theorem Rep.ae (h : Rep own w p s g) (k : Nat) (hk : k < 6) : w.cell? ⟨p, 2 + k * 4 + 2, none⟩ = some (.int .i64 (s.ar k).e) := h.area k 2 hk (by omega)
theorem Rep.af (h : Rep own w p s g) (k : Nat) (hk : k < 6) : w.cell? ⟨p, 2 + k * 4 + 3, none⟩ = some (.map (some (g.fb k))) := by
  rw [h.area k 3 hk (by omega)]; unfold areaCell; rw [if_neg (by omega), if_neg (by omega), if_neg (by omega)]
theorem Rep.ngaps (h : Rep own w p s g) : w.cell? ⟨p, 26, none⟩ = some g.gv := h.cell 26 (by omega)
theorem Rep.nlist (h : Rep own w p s g) : w.cell? ⟨p, 27, none⟩ = some g.nl := h.cell 27 (by omega)
theorem Rep.nplaces (h : Rep own w p s g) : w.cell? ⟨p, 28, none⟩ = some (.map g.np) := h.cell 28 (by omega)
theorem Rep.special (h : Rep own w p s g) (k : Nat) (hk : k < 64) : w.cell? ⟨p, 29 + k, none⟩ = some (.int .u64 (s.spec.getD k 0)) := by
  rw [h.cell _ (by omega)]; unfold cellAt
  rw [if_neg (by omega), if_neg (by omega), if_neg (by omega), if_neg (by omega), if_neg (by omega), if_neg (by omega), if_pos (by omega)]
  have : 29 + k - 29 = k := by omega
  rw [this]
theorem Rep.cls (h : Rep own w p s g) (k : Nat) (hk : k < 4096) : w.cell? ⟨p, 93 + k, none⟩ = some (.int .u64 (s.cls.getD k 0)) := by
  rw [h.cell _ (by omega)]; unfold cellAt
  rw [if_neg (by omega), if_neg (by omega), if_neg (by omega), if_neg (by omega), if_neg (by omega), if_neg (by omega), if_neg (by omega), if_pos (by omega)]
  have : 93 + k - 93 = k := by omega
  rw [this]
theorem Rep.stk (h : Rep own w p s g) : w.cell? ⟨p, 4189, none⟩ = some g.kv := h.cell 4189 (by omega)
theorem Rep.que (h : Rep own w p s g) : w.cell? ⟨p, 4190, none⟩ = some g.qv := h.cell 4190 (by omega)
theorem Rep.giv (h : Rep own w p s g) : w.cell? ⟨p, 4191, none⟩ = some (.int .i64 s.given) := h.cell 4191 (by omega)
end
end Go.Proofs.Ytklbgccfcfldaaa.Wk
