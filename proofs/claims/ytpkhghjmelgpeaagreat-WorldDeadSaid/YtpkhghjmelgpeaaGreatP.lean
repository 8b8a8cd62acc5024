/- What it is that a world stands in memory: the program's own representation. -/
import Derived.Test.YtpkhghjmelgpeaaGreatW5
import Derived.Maps.OwnSet
import Derived.Maps.RangeWalk
set_option linter.unusedVariables false
namespace Go.Proofs.YtpkhghjmelgpeaaGreat.Wk
open Go.ChangeShapes Go.WideShapes Go.ChangeAt Go.RowKit M

/-- v is the slice of choices l; its cells may be written. -/
def Chs (own : Own) (w : World) (v : Value) (l : List Ch) : Prop :=
  ∃ a c, v = .slice a l.length c ∧ l.length ≤ c ∧ c ≤ maxLen ∧ (0 < l.length → ∃ g o cur fz, a = some ⟨g, o, none⟩ ∧ own g = some .ch ∧ w.heap[g]? = some (.cells cur 63 fz) ∧ unfz cur fz ∧ o + 3 * l.length ≤ cur.size ∧ (cur.toList.drop o).take (3 * l.length) = l.flatMap chcells)

/-- How the maps' elements are read: by their blocks. -/
def pd (b : Nat) : DataW Unit := .lit (.int .i64 b)
def Rp : Value → Option (DataW Unit × List MemPlace)
  | .pointer none => some (.nil, [])
  | .pointer (some ⟨b, 0, none⟩) => some (.lit (.int .i64 b), [])
  | _ => none
def hd (t b : Nat) : DataW Unit := .agg [.lit (.int .i64 t), .lit (.int .i64 b)]
def Rh : Value → Option (DataW Unit × List MemPlace)
  | .nilIface => some (.nil, [])
  | .iface t (.pointer (some ⟨b, 0, none⟩)) => some (.agg [.lit (.int .i64 t), .lit (.int .i64 b)], [])
  | _ => none
def skey (s : ByteArray) : Lit := .string s.data.toList
def ikey (n : Int) : Lit := .int .i64 n
def fptr (fb : Nat → Nat) : Option Nat → DataW Unit
  | none => .nil
  | some i => pd (fb i)
structure FMap (D : DataW Unit) (fs : List Fs) (fb : Nat → Nat) : Prop where
  at_ : ∀ s : ByteArray, s.size ≤ maxLen → D.atKey (skey s) .nil = fptr fb (find fs s) ∧ Maps.has D (skey s) = (find fs s).isSome
  size : Maps.size D = named fs
def hptr (b : Nat) : Hd → DataW Unit
  | .closed => .nil
  | .file _ _ _ _ => hd 138 b
  | .host _ => hd 168 b
def Hd.there : Hd → Bool
  | .closed => false
  | _ => true
structure HMap (D : DataW Unit) (hs : List Hd) (hb : Nat → Nat) : Prop where
  at_ : ∀ n : Int, (Lit.int .i64 n).wf = true → D.atKey (ikey n) .nil = hptr (hb (n.toNat - 1)) (hdOf hs n) ∧ Maps.has D (ikey n) = Hd.there (hdOf hs n)
  size : Maps.size D ≤ hs.length
def HandR (own : Own) (w : World) (fb : Nat → Nat) (b n : Nat) : Hd → Prop
  | .closed => True
  | .file st i m a => own b = some (.h n) ∧ ∃ fp, w.heap[b]? = some (.cells #[.bool st, fp, .int .i64 m, .int .i64 a] 144 (0, 0)) ∧ (st = false → fp = .pointer (some ⟨fb i, 0, none⟩))
  | .host st => own b = some (.h n) ∧ w.heap[b]? = some (.cells #[.bool st] 170 (0, 0))
theorem HandR.kept {own own' : Own} {w w' : World} {fb : Nat → Nat} {b n : Nat} {h : Hd} (hh : HandR own w fb b n h) (hm : More w own own') (hk : Kept own (fun l => l = .h n) w w') : HandR own' w' fb b n h := by
  cases h with
  | closed => trivial
  | file st i m a => obtain ⟨ho, fp, h1, h2⟩ := hh; exact ⟨hm _ _ ho, fp, (hk b _ ho rfl).trans h1, h2⟩
  | host st => obtain ⟨ho, h1⟩ := hh; exact ⟨hm _ _ ho, (hk b _ ho rfl).trans h1⟩

theorem ownsMap_tight {H : Type} {P : Program} {k : TypeId} {R : Value → Option (DataW H × List MemPlace)} {w : World} {b n : Nat} {D : DataW H} (h : w.ownsMap P k R b n D) : w.ownsMap P k R b (Maps.size D) D := by
  obtain ⟨es, clock, h1, F, hs, hD⟩ := h
  refine ⟨es, clock, h1, F, ?_, hD⟩
  rw [hD, Maps.size_eq, length_read]
  exact Nat.le_refl _
structure Gh where
  cv : Value
  tv : Value
  fm : Nat
  hm : Nat
  Df : DataW Unit
  Dh : DataW Unit
  nf : Nat
  nh : Nat
  fb : Nat → Nat
  hb : Nat → Nat

structure Rep (own : Own) (w : World) (p : Nat) (s : St) (g : Gh) : Prop where
  owns : Owns own w
  wown : own p = some .w
  wcell : w.heap[p]? = some (.cells #[g.cv, .int .i64 s.clock, .bool s.dead, g.tv, .map (some g.fm), .int .i64 s.writes, .map (some g.hm), .int .i64 s.hs.length, .int .i64 (live s.hs)] 90 (0, 0))
  chs : Chs own w g.cv s.ch
  trow : Row w 82 6 g.tv s.told.length (s.told.flatMap ddcells)
  town : lab own g.tv .tr
  fown : own g.fm = some .fm
  fmap : w.ownsMap Tryz.prog 9 Rp g.fm g.nf g.Df
  fis : FMap g.Df s.fs g.fb
  hown : own g.hm = some .hm
  hmap : w.ownsMap Tryz.prog 3 Rh g.hm g.nh g.Dh
  his : HMap g.Dh s.hs g.hb
  files : ∀ i f, s.fs[i]? = some f → FileR own w (g.fb i) i f
  hands : ∀ n h, s.hs[n]? = some h → HandR own w g.fb (g.hb n) n h
  wf : Wf s

theorem Chs.kept {own own' : Own} {w w' : World} {v : Value} {l : List Ch} (h : Chs own w v l) (hm : More w own own') (hk : Kept own (fun l => l = .ch) w w') : Chs own' w' v l := by
  obtain ⟨a, c, h1, h2, h3, h4⟩ := h
  refine ⟨a, c, h1, h2, h3, fun h0 => ?_⟩
  obtain ⟨g, o, cur, fz, k1, k2, k3, k4⟩ := h4 h0
  exact ⟨g, o, cur, fz, k1, hm _ _ k2, (hk g _ k2 rfl).trans k3, k4⟩

/-- Where no labelled block has changed the world stands as it stood. -/
theorem Rep.kept {own own' : Own} {w w' : World} {p : Nat} {s : St} {g : Gh} (h : Rep own w p s g) (ho : Owns own' w') (hm : More w own own') (hk : Kept own (fun _ => True) w w') : Rep own' w' p s g where
  owns := ho
  wown := hm _ _ h.wown
  wcell := (hk _ _ h.wown trivial).trans h.wcell
  chs := h.chs.kept hm fun k l e _ => hk k l e trivial
  trow := h.trow.kept fun k e => hk k _ (h.town k e) trivial
  town := fun k e => hm _ _ (h.town k e)
  fown := hm _ _ h.fown
  fmap := ownsMap_kept h.fmap (hk _ _ h.fown trivial)
  fis := h.fis
  hown := hm _ _ h.hown
  hmap := ownsMap_kept h.hmap (hk _ _ h.hown trivial)
  his := h.his
  files := fun i f e => (h.files i f e).kept hm fun k l e _ => hk k l e trivial
  hands := fun i f e => (h.hands i f e).kept hm fun k l e _ => hk k l e trivial
  wf := h.wf
theorem Rep.below {own : Own} {w w' : World} {p : Nat} {s : St} {g : Gh} {B : Nat} (h : Rep own w p s g) (hb : Below B w w') (hB : w.heap.size ≤ B) : Rep own w' p s g :=
  h.kept (fun k hk => Nat.lt_of_lt_of_le (h.owns k hk) hb.size) (fun _ _ e => e) fun k l e _ => hb.block k (Nat.lt_of_lt_of_le (h.owns k (by rw [e]; simp)) hB)
end Go.Proofs.YtpkhghjmelgpeaaGreat.Wk
