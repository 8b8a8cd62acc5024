/- WorldReads: the law answers true for every input of bulk at most 1048576 (values and letters together), and every argument reads behind the call as it read before. No condition beyond the row's own. -/
import Derived.Test.YtpkhghjmelgpeaaM6
import Derived.Test.YtpkhghjmelgpeaaW38
import Derived.Lib.SmallJoins
import Derived.Test.YtpkhghjmelgpeaaW1b
import Derived.Test.YtpkhghjmelgpeaaRows
import Derived.WalkKit
import Derived.ProofKit
import Derived.OpenShut
import Derived.ShutString
import Derived.ChangeOld
import Derived.Below
import Derived.JoinedCond
set_option linter.unusedVariables false
namespace Go.Proofs.Ytpkhghjmelgpeaa.Wk
open M

def over (want : List UInt8) (at_ : Nat) (t : List UInt8) : List UInt8 := want.take at_ ++ t ++ want.drop (at_ + t.length)
theorem over_nil (want : List UInt8) (at_ : Nat) : over want at_ [] = want := by unfold over; simp
theorem over_len {want : List UInt8} {at_ : Nat} (t : List UInt8) (h : at_ ≤ want.length) : (over want at_ t).length = max want.length (at_ + t.length) := by
  unfold over; simp only [List.length_append, List.length_take, List.length_drop]; omega
theorem over_app {want : List UInt8} {at_ : Nat} {t : ByteArray} (o : Nat) (h : at_ ≤ want.length) : app want ⟨o, false, at_, t⟩ = over want at_ t.data.toList := by
  unfold app over
  have h0 : at_ - want.length = 0 := by omega
  have h1 : t.data.toList.length = t.size := rfl
  simp [h0, h1]
theorem over_set {want : List UInt8} {at_ : Nat} {t : List UInt8} {c : UInt8} (h : at_ + t.length < want.length) : over want at_ (t ++ [c]) = (over want at_ t).set (at_ + t.length) c := by
  have hl : (want.take at_ ++ t).length = at_ + t.length := by rw [List.length_append, List.length_take]; omega
  unfold over
  rw [List.set_append_right _ _ (by rw [hl]; exact Nat.le_refl _), hl, Nat.sub_self, List.drop_eq_getElem_cons h, List.set_cons_zero]
  simp [Nat.add_assoc]
theorem over_push {want : List UInt8} {at_ : Nat} {t : List UInt8} {c : UInt8} (h : want.length ≤ at_ + t.length) : over want at_ (t ++ [c]) = over want at_ t ++ [c] := by
  unfold over
  rw [List.drop_eq_nil_of_le h, List.drop_eq_nil_of_le (by simp; omega)]
  simp

/-- A file that is being written by handle 1; what it holds; how many deeds there may be. -/
structure Rdy (s : St) (name : ByteArray) (want : List UInt8) (n : Nat) : Prop where
  ch : s.ch = []
  alive : s.dead = false
  told : s.told.length ≤ n
  writes : s.writes ≤ n
  file : ∃ (i a : Nat) (f : Fs), s.hs = [.file false i 2 a] ∧ s.fs[i]? = some f ∧ f.name = name ∧ f.now = want
  nm : isName name = true
structure RdyAt (s : St) (name : ByteArray) (want : List UInt8) (at_ n : Nat) : Prop where
  ch : s.ch = []
  alive : s.dead = false
  told : s.told.length ≤ n
  writes : s.writes ≤ n
  file : ∃ (i : Nat) (f : Fs), s.hs = [.file false i 2 at_] ∧ s.fs[i]? = some f ∧ f.name = name ∧ f.now = want
  nm : isName name = true
theorem rdy_start {s : St} {name : ByteArray} {i : Nat} (h : Mid s i name [.file false i 2 0] 1) (hnow : ∃ f : Fs, s.fs[i]? = some f ∧ f.now = []) (hn : isName name = true) : Rdy s name [] 1 := by
  obtain ⟨h1, h2, h3, h4, h5, ⟨f, hf, hfn⟩, h7⟩ := h
  obtain ⟨f', hf', hn'⟩ := hnow
  rw [hf] at hf'; cases hf'
  exact ⟨h1, h2, h3, h4, ⟨i, 0, f, h5, hf, hfn, hn'⟩, hn⟩
theorem rdy_seek {s : St} {name : ByteArray} {want : List UInt8} {n at_ : Nat} (h : Rdy s name want n) (ha : at_ ≤ want.length) :
    ∃ S, perform s ⟨4, 1, noS, noS, at_, 0⟩ (M.onFile (actSeek at_)) = (S, ⟨4, 1, noS, noS, at_, 0⟩) ∧ RdyAt S name want at_ (n + 1) := by
  obtain ⟨h1, h2, h3, h4, ⟨i, a, f, h5, hf, hfn, hnow⟩, h7⟩ := h
  rw [free h2 h1]
  have hh : hdOf s.hs 1 = .file false i 2 a := by rw [h5]; rfl
  have hA : M.onFile (actSeek at_) s noCh ⟨4, 1, noS, noS, at_, 0⟩ = ({ s with hs := setAt s.hs 1 (.file false i 2 (at_ : Int).toNat) }, ⟨4, 1, noS, noS, at_, 0⟩) := by
    unfold M.onFile
    simp only
    rw [hh]
    simp only
    unfold actSeek
    rw [nowOf_get hf, hnow, if_neg (by omega)]
  rw [hA]
  exact ⟨_, rfl, ⟨h1, h2, by show (s.told ++ _).length ≤ _; simp; omega, by show s.writes ≤ _; omega, ⟨i, f, by show setAt s.hs 1 _ = _; rw [h5]; rfl, hf, hfn, hnow⟩, h7⟩⟩
theorem rdy_write {s : St} {name text : ByteArray} {want : List UInt8} {n at_ : Nat} (h : RdyAt s name want at_ n) (ha : at_ ≤ want.length) (hl : at_ + text.size ≤ 4194304) :
    ∃ S, perform s ⟨3, 1, text, noS, 0, 0⟩ (M.onFile (actWrite text)) = (S, ⟨3, 1, text, noS, 0, 0⟩) ∧ Rdy S name (over want at_ text.data.toList) (n + 1) := by
  obtain ⟨h1, h2, h3, h4, ⟨i, f, h5, hf, hfn, hnow⟩, h7⟩ := h
  rw [free h2 h1]
  have hh : hdOf s.hs 1 = .file false i 2 at_ := by rw [h5]; rfl
  have hA : M.onFile (actWrite text) s noCh ⟨3, 1, text, noS, 0, 0⟩ = ({ (change s i false at_ text) with hs := setAt (change s i false at_ text).hs 1 (.file false i 2 (at_ + text.size)) }, ⟨3, 1, text, noS, 0, 0⟩) := by
    unfold M.onFile
    simp only
    rw [hh]
    simp only
    unfold actWrite
    simp only [if_neg (show ¬ ((2 : Int) = 1) by decide), if_neg (show ¬ ((2 : Int) = 3) by decide)]
    rw [if_neg (by omega)]
  rw [hA]
  refine ⟨_, rfl, ⟨h1, h2, by show (s.told ++ _).length ≤ _; simp; omega, by show s.writes + 1 ≤ _; omega, ⟨i, at_ + text.size, _, ?_, get_setF hf, hfn, ?_⟩, h7⟩⟩
  · show setAt s.hs 1 _ = _
    rw [h5]; rfl
  · simp only
    rw [hnow, over_app _ ha]
/-- A file that is being read by handle 2. -/
structure Rd2 (s : St) (want : List UInt8) (a n : Nat) : Prop where
  ch : s.ch = []
  alive : s.dead = false
  told : s.told.length ≤ n
  file : ∃ (i : Nat) (h1 : Hd) (f : Fs), s.hs = [h1, .file false i 1 a] ∧ s.fs[i]? = some f ∧ f.now = want
theorem rdy_open {s : St} {name : ByteArray} {want : List UInt8} {n : Nat} (hw : Wf s) (h : Rdy s name want n) :
    ∃ S, perform s ⟨1, 0, name, noS, 1, 0⟩ (actOpen name 1) = (S, ⟨1, 2, name, noS, 1, 0⟩) ∧ Rd2 S want 0 (n + 1) := by
  obtain ⟨h1, h2, h3, h4, ⟨i, a, f, h5, hf, hfn, hnow⟩, h7⟩ := h
  have hne := name_ne h7
  have hfd : find s.fs name = some i := by rw [← hfn]; exact find_self hw hf (by rw [hfn]; exact hne)
  rw [free h2 h1]
  have h0 : refuses s name 1 = 0 := by
    have hlv : live s.hs = 1 := by rw [h5]; rfl
    unfold M.refuses
    rw [if_neg (by simp [h7]), if_neg (by decide), if_neg (by rw [hfd]; simp), if_neg (by rw [hlv, hfd]; simp)]
  have hm : made s name = (s, i) := by unfold made; rw [hfd]
  have hA : actOpen name 1 s noCh ⟨1, 0, name, noS, 1, 0⟩ = ({ s with hs := s.hs ++ [.file false i 1 0] }, ⟨1, s.hs.length + 1, name, noS, 1, 0⟩) := by
    unfold actOpen; rw [if_neg (by simp [h0]), hm]; rfl
  have e2 : (s.hs.length : Int) + 1 = 2 := by rw [h5]; rfl
  rw [e2] at hA
  rw [hA]
  exact ⟨_, rfl, ⟨h1, h2, by show (s.told ++ _).length ≤ _; simp; omega, ⟨i, _, f, by show s.hs ++ _ = _; rw [h5]; rfl, hf, hnow⟩⟩⟩
theorem rd2_size {s : St} {want : List UInt8} {a n : Nat} (h : Rd2 s want a n) : M.sizeOf s 2 = ((want.length : Int), 0) := by
  obtain ⟨h1, h2, h3, ⟨i, h1', f, h5, hf, hnow⟩⟩ := h
  have hh : hdOf s.hs 2 = .file false i 1 a := by rw [h5]; rfl
  unfold M.sizeOf
  rw [if_neg (by simp [h2]), hh]
  simp only
  rw [nowOf_get hf, hnow]
theorem rd2_read {s : St} {want : List UInt8} {a n m : Nat} (h : Rd2 s want a n) :
    ∃ S, perform s ⟨2, 2, noS, noS, m, 0⟩ (M.onFile (actRead m)) = (S, ⟨2, 2, M.strOf ((want.drop a).take m), noS, m, 0⟩) ∧ Rd2 S want (a + ((want.drop a).take m).length) (n + 1) := by
  obtain ⟨h1, h2, h3, ⟨i, h1', f, h5, hf, hnow⟩⟩ := h
  rw [free h2 h1]
  have hh : hdOf s.hs 2 = .file false i 1 a := by rw [h5]; rfl
  have hA : M.onFile (actRead m) s noCh ⟨2, 2, noS, noS, m, 0⟩ = ({ s with hs := setAt s.hs 2 (.file false i 1 (a + ((want.drop a).take m).length)) }, ⟨2, 2, M.strOf ((want.drop a).take m), noS, m, 0⟩) := by
    unfold M.onFile
    simp only
    rw [hh]
    simp only
    unfold actRead
    rw [if_neg (by decide), if_neg (by omega)]
    simp only
    rw [nowOf_get hf, hnow]
    rfl
  rw [hA]
  exact ⟨_, rfl, ⟨h1, h2, by show (s.told ++ _).length ≤ _; simp; omega, ⟨i, h1', f, by show setAt s.hs 2 _ = _; rw [h5]; rfl, hf, hnow⟩⟩⟩
end Go.Proofs.Ytpkhghjmelgpeaa.Wk
set_option linter.unusedVariables false
namespace Go.Proofs.Ytpkhghjmelgpeaa.Wk
open Go.ChangeShapes Go.WideShapes Go.ChangeAt Go.RowKit M Go.Maps Go.Proofs

theorem bcells_set (l : List UInt8) (j : Nat) (c : UInt8) : bcells (l.set j c) = (bcells l).set j (.int .u8 c.toNat) := by unfold bcells; rw [List.map_set]
/-- A byte is laid in its place. -/
theorem Row.put {w : World} {e : TypeId} {v : Value} {l : List UInt8} (h : Row w e 1 v l.length (bcells l)) (j : Nat) (hj : j < l.length) (c : UInt8) :
    ∃ g cp, v = .slice (some ⟨g, 0, none⟩) l.length cp ∧ blk v = some g ∧ j < cp ∧ g < w.heap.size ∧ w.frozen? ⟨g, j, none⟩ = false ∧ (w.cell? ⟨g, j, none⟩).isSome = true ∧ Row (w.setCell ⟨g, j, none⟩ (.int .u8 c.toNat)) e 1 v (l.set j c).length (bcells (l.set j c)) := by
  rcases h.2 with ⟨h0, _⟩ | ⟨g, cap, cur, rfl, hc, ⟨fz, hg, hz⟩, hn, hcm, hcs, htake⟩
  · omega
  · obtain ⟨cp, rfl⟩ : ∃ cp, cap = cp + 1 := ⟨cap - 1, by omega⟩
    have hjc : j < cur.size := by omega
    refine ⟨g, _, rfl, rfl, by omega, blk_lt hg, unfz_frozen hg hz _ hjc, by rw [cell_of_row w g j cur e fz hg]; simp [hjc], by rw [bcells_len]; simp, .inr ⟨g, cp + 1, cur.setIfInBounds j (.int .u8 c.toNat), by rw [List.length_set], by omega, ⟨fz, blk_set hg j _, ?_⟩, by rw [List.length_set]; exact hn, hcm, by simpa using hcs, ?_⟩⟩
    · unfold unfz at hz ⊢; simpa using hz
    · rw [bcells_set, List.length_set, ← htake, Array.toList_setIfInBounds, List.take_set]
theorem infoU8 : (Try.prog.info? 5).map (fun i => (i.zero, i.size, i.bytes)) = some (some (.int .u8 0), 1, 1) := by kernel_rfl
/-- One byte more. -/
theorem append_byte (W : World) (v : Value) (l : List UInt8) (hrow0 : Row W 5 1 v l.length (bcells l)) (c : UInt8) (ht : l.length ≤ 1099511627776) :
    ∃ v' w2, (Builtin.append_ #[42, 42] 42 #[v, .slice (some ⟨W.heap.size, 0, none⟩) 1 1]).run Try.prog (W.alloc (.cells #[.int .u8 c.toNat] 5)) = .ok v' w2 ∧
      Row w2 5 1 v' (l ++ [c]).length (bcells (l ++ [c])) ∧ W.grownBy w2 (blk v) ∧ (blk v' = blk v ∨ ∀ k, blk v' = some k → W.heap.size ≤ k) := by
  obtain ⟨i, hi, hz0, hz1, hz2⟩ := info_parts infoU8
  have hrow : Row (W.alloc (.cells #[.int .u8 c.toNat] 5)) 5 1 v l.length (bcells l) := hrow0.kept fun k hk => Below.heap_alloc W _ k (hrow0.lt k hk)
  have hsrc : Src Try.prog 1 42 (.slice (some ⟨W.heap.size, 0, none⟩) 1 1) 1 [.int .u8 c.toNat] (W.alloc (.cells #[.int .u8 c.toNat] 5)) := by
    refine Src.ofSlice (P := Try.prog) _ Try.underlying42 _ 1 1 [.int .u8 c.toNat] rfl (fun j u hu => ?_) (by intro u hu; simp at hu; subst hu; rfl)
    rw [add_0, cell_blk (heap_alloc_new W _)]
    simpa using hu
  obtain ⟨v', w2, hr, h2, hg, hb⟩ := hrow.append (P := Try.prog) 42 42 42 i _ 1 Try.underlying42 hi hz0 hz1 hz2 (by rfl) _ 1 [.int .u8 c.toNat] hsrc (by omega) (by unfold maxLen; omega) (by omega)
  refine ⟨v', w2, hr, by simpa [bcells] using h2, ⟨hg.os, hg.tape, hg.output, Nat.le_trans (by simp) hg.size, fun k hk hne => (hg.block k (by simp; omega) hne).trans (Below.heap_alloc W _ k hk)⟩, ?_⟩
  rcases hb with e | e
  · exact .inl e
  · exact .inr fun k hk => by rw [hk] at e; simp at e; omega

def IntS (w : World) (v : Value) (zs : List Int) : Prop :=
  ∃ a c, v = .slice a zs.length c ∧ ∀ (k : Nat) z, zs[k]? = some z → ∃ b off, a = some ⟨b, off, none⟩ ∧ w.cell? ⟨b, off + k, none⟩ = some (.int .i64 z)
def StrS (w : World) (v : Value) (ss : List ByteArray) : Prop :=
  ∃ a c, v = .slice a ss.length c ∧ ∀ (k : Nat) z, ss[k]? = some z → ∃ b off, a = some ⟨b, off, none⟩ ∧ w.cell? ⟨b, off + k, none⟩ = some (.string z)
theorem cellsInt : Try.prog.cellsOf 3 = 1 := by kernel_rfl
set_option maxRecDepth 100000 in
theorem open_places {H : Type} {enc : TypeId × Value → H} {w : World} {base : Nat} {v : Value} {d : DataW H} {p : List MemPlace} (hv : Value.okWide Try.prog w .any base 39 v) (h : DataW.Trod enc Try.prog w 0 (fun _ => true) true 39 v d p) :
    ∃ zs : List Int, IntS w v zs ∧ zs.length ≤ maxLen ∧ zs.length ≤ Go.Joins.sliceLen d ∧ ∀ z ∈ zs, (Lit.int .i64 z).wf = true := by
  obtain ⟨a0, len0, cap0, rfl⟩ := okWide_slice Try.underlying39 hv
  have hsl := Go.Joins.sliceLen_Trod Try.underlying39 h
  obtain ⟨m, hm⟩ := h
  have hcs : (Value.slice a0 len0 cap0).cells.toList = [.slice a0 len0 cap0] := rfl
  rw [hcs] at hm
  rcases open_ints Try.underlying39 Try.underlying3 cellsInt hm with ⟨h1, _⟩ | ⟨a, len, cap, zs, h1, _, hl, hcm, hz, _, hcell, hwz⟩
  · injection h1 with h1 _
    injection h1 with e1 e2 e3
    subst e1 e2 e3
    exact ⟨[], ⟨none, 0, rfl, fun k x hx => by simp at hx⟩, Nat.zero_le _, Nat.zero_le _, fun x hx => by cases hx⟩
  · injection h1 with h1 _
    injection h1 with e1 e2 e3
    subst e1 e2 e3
    simp only [if_true] at hz
    refine ⟨zs.take len0, ⟨some a, cap0, by rw [List.length_take]; congr 1; omega, fun k x hk => ?_⟩, by rw [List.length_take]; omega, by rw [List.length_take, hsl]; omega, fun x hk => hwz x (List.mem_of_mem_take hk)⟩
    have hkl : k < zs.length := by have := (List.getElem?_eq_some_iff.1 hk).1; rw [List.length_take] at this; omega
    have hk2 : zs[k]? = some x := by rw [List.getElem?_take] at hk; split at hk; exact hk; cases hk
    have c0 := hcell k hkl
    have b0 := hcell 0 (by omega)
    rw [show a.add 0 = a from rfl] at b0
    obtain ⟨b, off, rfl⟩ := spot_none b0
    rw [addr_add] at c0
    refine ⟨b, off, rfl, c0.trans ?_⟩
    rw [List.getD_eq_getElem?_getD, hk2]; rfl
set_option maxRecDepth 100000 in
theorem open_pieces {H : Type} {enc : TypeId × Value → H} {w : World} {base : Nat} {v : Value} {d : DataW H} {p : List MemPlace} (hv : Value.okWide Try.prog w .any base 40 v) (h : DataW.Trod enc Try.prog w 0 (fun _ => true) true 40 v d p) :
    ∃ ss : List ByteArray, StrS w v ss ∧ ss.length ≤ maxLen ∧ ss.length ≤ Go.Joins.sliceLen d ∧ ∀ z ∈ ss, z.size ≤ maxLen := by
  obtain ⟨a0, len0, cap0, rfl⟩ := okWide_slice Try.underlying40 hv
  have hsl := Go.Joins.sliceLen_Trod Try.underlying40 h
  obtain ⟨m, hm⟩ := h
  have hcs : (Value.slice a0 len0 cap0).cells.toList = [.slice a0 len0 cap0] := rfl
  rw [hcs] at hm
  rcases Go.Deep.open_slice1 Try.underlying40 cellsStr hm with ⟨h1, _⟩ | ⟨a, len, cap, mm, n, V, D, Pl, h1, _, hl, hcm, hmm, _, hx⟩
  · injection h1 with h1 _
    injection h1 with e1 e2 e3
    subst e1 e2 e3
    exact ⟨[], ⟨none, 0, rfl, fun k x hx => by simp at hx⟩, Nat.zero_le _, Nat.zero_le _, fun x hx => by cases hx⟩
  · injection h1 with h1 _
    injection h1 with e1 e2 e3
    subst e1 e2 e3
    simp only [if_true] at hmm
    obtain ⟨f, hf⟩ := Go.Deep.choose_lt (α := ByteArray) (p := fun i q => V i = .string q ∧ q.size ≤ maxLen) (n := len0) (fun i hi => by
      obtain ⟨_, h2⟩ := hx i (by omega)
      obtain ⟨s, e1, _, b1⟩ := DataW.trod_string Try.underlying9 h2
      injection e1 with e1 _
      exact ⟨s, e1, b1⟩)
    refine ⟨(List.range len0).map f, ⟨some a, cap0, by simp, fun k x hk => ?_⟩, by simp; omega, by rw [hsl]; simp, fun x hk => ?_⟩
    · have hkl : k < len0 := by have := (List.getElem?_eq_some_iff.1 hk).1; simpa using this
      rw [List.getElem?_map, List.getElem?_range hkl] at hk
      simp at hk; subst hk
      have c0 := (hx k (by omega)).1
      have b0 := (hx 0 (by omega)).1
      rw [show a.add 0 = a from rfl] at b0
      obtain ⟨b, off, rfl⟩ := spot_none b0
      rw [addr_add, (hf k hkl).1] at c0
      exact ⟨b, off, rfl, c0⟩
    · obtain ⟨i, hi, rfl⟩ := List.mem_map.1 hk
      exact (hf i (List.mem_range.1 hi)).2
end Go.Proofs.Ytpkhghjmelgpeaa.Wk
set_option linter.unusedVariables false
namespace Go.Proofs.Ytpkhghjmelgpeaa.Wk
open Go.ChangeShapes Go.WideShapes Go.ChangeAt Go.RowKit M Go.Maps Go.Proofs

/-- What stands at the head of WorldReads' loops: the world, the file's bytes, and the same bytes in a row of the law's own. -/
def ReadsAt (w : World) (p : Nat) (name : ByteArray) (file want : List UInt8) (n : Nat) (wv : Value) (wr : World) : Prop :=
  ∃ own g S, Rep own wr p S g ∧ Rdy S name file n ∧ (∀ k, k < w.heap.size → own k = none) ∧ Row wr 5 1 wv want.length (bcells want) ∧ (∀ k, blk wv = some k → own k = none ∧ w.heap.size ≤ k) ∧ Below w.heap.size w wr
theorem refuses_start (name : ByteArray) (h : isName name = true) : refuses (start []) name 2 = 0 := by
  unfold M.refuses
  rw [if_neg (by simp [h]), if_neg (by decide)]
  have hf : find (start []).fs name = none := rfl
  rw [hf, if_neg (by decide), if_neg (by decide)]
/-- An operation of the world leaves the law's row alone. -/
theorem Row.fr {own own' : Own} {w w' : World} {e : TypeId} {z : Nat} {v : Value} {n : Nat} {xs : List Value} (h : Row w e z v n xs) (hF : Fr own w own' w' noE) (ho : ∀ k, blk v = some k → own k = none) : Row w' e z v n xs :=
  h.kept fun k hk => hF.kept k (h.lt k hk) (ho k hk) (fun e => e)

theorem wfN (n : Nat) (h : n ≤ 9223372036854775807) : (Lit.int .i64 n).wf = true := by simp [Lit.wf, IntKind.min, IntKind.max, IntKind.signed, IntKind.bits]; omega
def SeekAt (w : World) (p : Nat) (name : ByteArray) (file want : List UInt8) (at_ n : Nat) (wv : Value) (wr : World) : Prop :=
  ∃ own g S, Rep own wr p S g ∧ RdyAt S name file at_ n ∧ (∀ k, k < w.heap.size → own k = none) ∧ Row wr 5 1 wv want.length (bcells want) ∧ (∀ k, blk wv = some k → own k = none ∧ w.heap.size ≤ k) ∧ Below w.heap.size w wr
def Reads2 (w : World) (p : Nat) (file want : List UInt8) (a n : Nat) (wv : Value) (wr : World) : Prop :=
  ∃ own g S, Rep own wr p S g ∧ Rd2 S file a n ∧ (∀ k, k < w.heap.size → own k = none) ∧ Row wr 5 1 wv want.length (bcells want) ∧ (∀ k, blk wv = some k → own k = none ∧ w.heap.size ≤ k) ∧ Below w.heap.size w wr
/-- What an operation of the world keeps of the law's own. -/
theorem keepsW {w wr w' : World} {own own' : Own} {wv : Value} {want : List UInt8} (hF : Fr own wr own' w' noE) (hO : ∀ k, k < w.heap.size → own k = none) (hrow : Row wr 5 1 wv want.length (bcells want)) (hblk : ∀ k, blk wv = some k → own k = none ∧ w.heap.size ≤ k) (hb : Below w.heap.size w wr) :
    (∀ k, k < w.heap.size → own' k = none) ∧ Row w' 5 1 wv want.length (bcells want) ∧ (∀ k, blk wv = some k → own' k = none ∧ w.heap.size ≤ k) ∧ Below w.heap.size w w' :=
  ⟨fun k hk => (hF.old k (Nat.lt_of_lt_of_le hk hb.size)).trans (hO k hk), hrow.fr hF (fun k hk => (hblk k hk).1), fun k hk => ⟨(hF.old k (hrow.lt k hk)).trans (hblk k hk).1, (hblk k hk).2⟩, hb.trans (hF.below hb.size hO)⟩
theorem seek_reads {w wr : World} {p n at_ : Nat} {name : ByteArray} {file want : List UInt8} {wv : Value} (h : ReadsAt w p name file want n wv wr) (hn : n ≤ 1099511627776) (ha : at_ ≤ file.length) (hf : at_ ≤ 1099511627776) :
    Calls Try.prog 15 #[.pointer (some ⟨p, 0, none⟩), .int .i64 1, .int .i64 at_] wr fun e w' => e = .returned (.int .i64 0) ∧ SeekAt w p name file want at_ (n + 1) wv w' := by
  obtain ⟨own, g, S, hR, hQ, hO, hrow, hblk, hb⟩ := h
  obtain ⟨S2, p2, q2⟩ := rdy_seek hQ ha
  refine (seek_any own wr p S g 1 at_ hR (by have := hQ.told; omega) (by decide) (wfN at_ (by omega))).mono fun e w' hq => ?_
  obtain ⟨own', g', rfl, hR', hF⟩ := Ops.got hq p2 (.int .i64 0) rfl
  obtain ⟨k1, k2, k3, k4⟩ := keepsW hF hO hrow hblk hb
  exact ⟨rfl, own', g', S2, hR', q2, k1, k2, k3, k4⟩
theorem write_reads {w wr : World} {p n at_ : Nat} {name t : ByteArray} {file want : List UInt8} {wv : Value} (h : SeekAt w p name file want at_ n wv wr) (hn : n ≤ 1099511627776) (ha : at_ ≤ file.length) (hl : at_ + t.size ≤ 4194304) :
    Calls Try.prog 8 #[.pointer (some ⟨p, 0, none⟩), .int .i64 1, .string t] wr fun e w' => e = .returned (.int .i64 0) ∧ ReadsAt w p name (over file at_ t.data.toList) want (n + 1) wv w' := by
  obtain ⟨own, g, S, hR, hQ, hO, hrow, hblk, hb⟩ := h
  obtain ⟨S2, p2, q2⟩ := rdy_write (text := t) hQ ha hl
  refine (write_any own wr p S g 1 t hR (by have := hQ.told; omega) (by decide) (by have := hQ.writes; omega) (by omega)).mono fun e w' hq => ?_
  obtain ⟨own', g', rfl, hR', hF⟩ := Ops.got hq p2 (.int .i64 0) rfl
  obtain ⟨k1, k2, k3, k4⟩ := keepsW hF hO hrow hblk hb
  exact ⟨rfl, own', g', S2, hR', q2, k1, k2, k3, k4⟩
theorem open_reads {w wr : World} {p n : Nat} {name : ByteArray} {file want : List UInt8} {wv : Value} (h : ReadsAt w p name file want n wv wr) (hn : n ≤ 1099511627776) (hs : name.size ≤ maxLen) :
    Calls Try.prog 7 #[.pointer (some ⟨p, 0, none⟩), .string name, .int .i64 1] wr fun e w' => e = .returned (.tuple #[.int .i64 2, .int .i64 0]) ∧ Reads2 w p file want 0 (n + 1) wv w' := by
  obtain ⟨own, g, S, hR, hQ, hO, hrow, hblk, hb⟩ := h
  obtain ⟨S2, p2, q2⟩ := rdy_open hR.wf hQ
  refine (open_any own wr p S g name 1 hR (by have := hQ.told; omega) hs (by have := hQ.writes; omega) (by obtain ⟨i, a, f, h5, _⟩ := hQ.file; rw [h5]; simp)).mono fun e w' hq => ?_
  obtain ⟨own', g', rfl, hR', hF⟩ := Ops.got hq p2 (.tuple #[.int .i64 2, .int .i64 0]) rfl
  obtain ⟨k1, k2, k3, k4⟩ := keepsW hF hO hrow hblk hb
  exact ⟨rfl, own', g', S2, hR', q2, k1, k2, k3, k4⟩
theorem size_reads {w wr : World} {p a n : Nat} {file want : List UInt8} {wv : Value} (h : Reads2 w p file want a n wv wr) :
    Calls Try.prog 16 #[.pointer (some ⟨p, 0, none⟩), .int .i64 2] wr fun e w' => e = .returned (.tuple #[.int .i64 file.length, .int .i64 0]) ∧ wr = w' := by
  obtain ⟨own, g, S, hR, hQ, hO, hrow, hblk, hb⟩ := h
  have := size_any own wr p S g 2 hR (by decide)
  rw [rd2_size hQ] at this
  exact this
theorem read_reads {w wr : World} {p a n : Nat} (m : Nat) {file want : List UInt8} {wv : Value} (h : Reads2 w p file want a n wv wr) (hn : n ≤ 1099511627776) (hm : m ≤ 1099511627776) :
    Calls Try.prog 17 #[.pointer (some ⟨p, 0, none⟩), .int .i64 2, .int .i64 m] wr fun e w' => e = .returned (.tuple #[.string (M.strOf ((file.drop a).take m)), .int .i64 0]) ∧ Reads2 w p file want (a + ((file.drop a).take m).length) (n + 1) wv w' := by
  obtain ⟨own, g, S, hR, hQ, hO, hrow, hblk, hb⟩ := h
  obtain ⟨S2, p2, q2⟩ := rd2_read (m := m) hQ
  refine (read_any own wr p S g 2 m hR (by have := hQ.told; omega) (by decide) (wfN m (by omega))).mono fun e w' hq => ?_
  obtain ⟨own', g', rfl, hR', hF⟩ := Ops.got hq p2 (.tuple #[.string (M.strOf ((file.drop a).take m)), .int .i64 0]) rfl
  obtain ⟨k1, k2, k3, k4⟩ := keepsW hF hO hrow hblk hb
  exact ⟨rfl, own', g', S2, hR', q2, k1, k2, k3, k4⟩
theorem reads_set {w wr : World} {p n : Nat} {name : ByteArray} {file l : List UInt8} {wv : Value} (h : ReadsAt w p name file l n wv wr) (j : Nat) (hj : j < l.length) (c : UInt8) :
    ∃ g cp, wv = .slice (some ⟨g, 0, none⟩) l.length cp ∧ j < cp ∧ g < wr.heap.size ∧ wr.frozen? ⟨g, j, none⟩ = false ∧ (wr.cell? ⟨g, j, none⟩).isSome = true ∧ ReadsAt w p name file (l.set j c) n wv (wr.setCell ⟨g, j, none⟩ (.int .u8 c.toNat)) := by
  obtain ⟨own, g, S, hR, hQ, hO, hrow, hblk, hb⟩ := h
  obtain ⟨gb, cp, e1, e2, e3, e4, e5, e6, e7⟩ := hrow.put j hj c
  obtain ⟨b1, b2⟩ := hblk gb e2
  refine ⟨gb, cp, e1, e3, e4, e5, e6, own, g, S, (set1_rep hR gb j b1 _).1, hQ, hO, e7, hblk, hb.setCell b2 _⟩
theorem reads_push {w wr : World} {p n : Nat} {name : ByteArray} {file l : List UInt8} {wv : Value} (h : ReadsAt w p name file l n wv wr) (hl : l.length ≤ 1099511627776) (c : UInt8) :
    ∃ wv' w2, (Builtin.append_ #[42, 42] 42 #[wv, .slice (some ⟨wr.heap.size, 0, none⟩) 1 1]).run Try.prog (wr.alloc (.cells #[.int .u8 c.toNat] 5)) = .ok wv' w2 ∧ ReadsAt w p name file (l ++ [c]) n wv' w2 := by
  obtain ⟨own, g, S, hR, hQ, hO, hrow, hblk, hb⟩ := h
  obtain ⟨wv', w2, hr, h2, hg, hbk⟩ := append_byte wr wv l hrow c hl
  have hfree : ∀ k, blk wv = some k → own k = none := fun k hk => (hblk k hk).1
  obtain ⟨r1, r2⟩ := rep_free (ex := fun k => blk wv = some k) hR hg.os hg.tape hg.output hg.size hfree (fun k hk hne => hg.block k hk (fun e => hne e.symm))
  refine ⟨wv', w2, hr, own, g, S, r1, hQ, hO, h2, fun k hk => ?_, ⟨hg.os.trans hb.os, hg.tape.trans hb.tape, hg.output.trans hb.output, Nat.le_trans hb.size hg.size, fun k hk => (hg.block k (Nat.lt_of_lt_of_le hk hb.size) (fun e => by have := (hblk k e.symm).2; omega)).trans (hb.block k hk)⟩⟩
  rcases hbk with e | e
  · exact hblk k (e ▸ hk)
  · have := e k hk
    exact ⟨owns_none hR.owns this, Nat.le_trans hb.size this⟩
end Go.Proofs.Ytpkhghjmelgpeaa.Wk
set_option linter.unusedVariables false
namespace Go.Proofs.Ytpkhghjmelgpeaa.Wk
open Go.ChangeShapes Go.WideShapes Go.ChangeAt Go.RowKit M Go.Maps Go.Proofs

def RdRel (w : World) (p : Nat) (name : ByteArray) (m : Nat) (wv i : Value) (wr : World) : Prop :=
  ∃ (k : Nat) (want : List UInt8), k ≤ m ∧ i = .int .i64 k ∧ want.length ≤ 200000 ∧ ReadsAt w p name want want (1 + 2 * k) wv wr
def InRel (w : World) (p : Nat) (name : ByteArray) (want : List UInt8) (at_ : Nat) (t : List UInt8) (n : Nat) (wv kk : Value) (wr : World) : Prop :=
  ∃ q : Nat, q ≤ t.length ∧ kk = .int .i64 q ∧ ReadsAt w p name (over want at_ t) (over want at_ (t.take q)) n wv wr
theorem reads_join (want : List UInt8) (h : Nat) (hh : h ≤ want.length) :
    M.strOf ((want.drop 0).take h) ++ M.strOf ((want.drop (0 + ((want.drop 0).take h).length)).take (want.length + 1)) = M.strOf want ∧
    M.strOf ((want.drop (0 + ((want.drop 0).take h).length + ((want.drop (0 + ((want.drop 0).take h).length)).take (want.length + 1)).length)).take 5) = ⟨#[]⟩ ∧ True := by
  have h1 : ((want.drop 0).take h).length = h := by simp; omega
  rw [h1, Nat.zero_add, List.drop_zero, List.take_of_length_le (by simp; omega : (want.drop h).length ≤ want.length + 1)]
  refine ⟨?_, ?_, trivial⟩
  · apply strOf_inj
    show (M.strOf (want.take h) ++ M.strOf (want.drop h)).data.toList = want
    rw [ByteArray.data_append, Array.toList_append]
    exact List.take_append_drop h want
  · rw [List.drop_eq_nil_of_le (by simp; omega)]
    rfl
set_option maxHeartbeats 8000000 in
set_option maxRecDepth 100000 in
theorem WorldReads_in (name : ByteArray) (Z : List Int) (P : List ByteArray) (zv pv : Value) (w : World) (hZ : IntS w zv Z) (hP : StrS w pv P) (hn : name.size ≤ maxLen) (hZw : ∀ z ∈ Z, (Lit.int .i64 z).wf = true) (hPs : ∀ s ∈ P, s.size ≤ maxLen) (hPl : P.length ≤ 1048576) (hZl : Z.length ≤ 1048576) :
    Calls Try.prog 4 #[.string name, zv, pv] w (SynE w) := by
  have HWK := Lib.hid (works_any w)
  obtain ⟨za, zc, rfl, hzc⟩ := hZ
  obtain ⟨pa, pc, rfl, hpc⟩ := hP
  have HZC := Lib.hid hzc
  have HPC := Lib.hid hpc
  have HZW := Lib.hid hZw
  have HPS := Lib.hid hPs
  have Hn := Lib.hid hn
  clear hzc hpc hZw hPs hn
  go_enter Try.func4, Try.ntmps4
  go_wp2_with fail
  refine HWK.out.mono ?_
  rintro e w0 ⟨rfl, hb0⟩
  have HB0 := Lib.hid hb0
  clear hb0 HWK
  go_wp2_with fail
  have HNM := Lib.hid (rName_any name w0 Hn.out)
  cases hnm : isName name
  · rw [hnm] at HNM
    clear hnm
    refine HNM.out.mono ?_
    rintro e w' ⟨rfl, rfl⟩
    go_wp2
    go_ret
    exact ⟨rfl, HB0.out⟩
  · rw [hnm] at HNM
    have HN1 := Lib.hid hnm
    clear hnm
    refine HNM.out.mono ?_
    rintro e w' ⟨rfl, rfl⟩
    go_wp2_with fail
    refine (new_any (.slice none 0 0) (.slice none 0 0) [] [] w0 (Row.nil w0 52 3).rd (by decide) ⟨none, 0, rfl, fun k x hx => by simp at hx⟩ (by decide) (by intro x hx; cases hx)).mono ?_
    rw [show mkNew [] [] = some (start []) from rfl]
    rintro e w1 ⟨p, own1, g1, rfl, hR1, hO1, hB1⟩
    obtain ⟨S1, i1, p1, q1, n1⟩ := mid_open (s := start []) rfl rfl rfl rfl rfl (refuses_start name HN1.out)
    have P1 := Lib.hid p1
    have Q1 := Lib.hid (rdy_start q1 n1 HN1.out)
    have HO1 := Lib.hid hO1
    have HB1 := Lib.hid hB1
    have HOP := Lib.hid (open_any own1 w1 p (start []) g1 name 2 hR1 (by decide) Hn.out (by decide) (by decide))
    clear p1 q1 n1 hR1 hO1 hB1 HNM
    go_wp2_with fail
    refine HOP.out.mono ?_
    rintro e w2 hq
    obtain ⟨own2, g2, rfl, hR2, hF2⟩ := Ops.got hq P1.out (.tuple #[.int .i64 1, .int .i64 0]) rfl
    have hb2 : Below w.heap.size w w2 := HB0.out.trans ((HB1.out.trans (hF2.below HB1.out.size HO1.out)).mono HB0.out.size)
    have hA2 : ReadsAt w p name [] [] 1 (.slice none 0 0) w2 := ⟨own2, g2, S1, hR2, Q1.out, fun k hk => (hF2.old k (by have := HB0.out.size; have := HB1.out.size; omega)).trans (HO1.out k (Nat.lt_of_lt_of_le hk HB0.out.size)), Row.nil _ _ _, by simp [blk], hb2⟩
    have HA2 := Lib.hid hA2
    clear hq hR2 hF2 hb2 hA2 HOP HB0 HB1 HO1 P1 Q1
    go_wp2
    go_loopw [12, 13] (fun wv i wr => RdRel w p name P.length wv i wr) (fun _ i _ => P.length - (intOf i).toNat)
    case atStart => exact ⟨0, [], Nat.zero_le _, rfl, by decide, HA2.out⟩
    case round =>
      obtain ⟨k, want, hk, rfl, hwl, hat⟩ := hrel
      clear HA2
      have hat0 := hat
      obtain ⟨_, _, _, _, _, _, hrow, _, hbw⟩ := hat0
      obtain ⟨wa, wc, rfl, _⟩ := hrow.cells
      obtain ⟨wl, hwlq⟩ : ∃ wl, wl = want.length := ⟨_, rfl⟩
      rw [← hwlq] at hat
      rw [← hwlq]
      have HAT := Lib.hid hat
      have HBW := Lib.hid hbw
      have HWL := Lib.hid hwl
      have HWQ := Lib.hid hwlq
      clear hat hrow hbw hwl hwlq
      have hcs : (∃ x z, P[k]? = some x ∧ Z[k]? = some z ∧ want.length < 100000 ∧ x.size < 100000) ∨
          ((P.length = k) ∨ (k < P.length ∧ ¬ k < Z.length) ∨ (k < P.length ∧ k < Z.length ∧ ¬ want.length < 100000) ∨ (∃ x, P[k]? = some x ∧ k < Z.length ∧ want.length < 100000 ∧ ¬ x.size < 100000)) := by
        by_cases c1 : k < P.length
        · by_cases c2 : k < Z.length
          · by_cases c3 : want.length < 100000
            · by_cases c4 : (P[k]).size < 100000
              · exact .inl ⟨P[k], Z[k], List.getElem?_eq_getElem c1, List.getElem?_eq_getElem c2, c3, c4⟩
              · exact .inr (.inr (.inr (.inr ⟨P[k], List.getElem?_eq_getElem c1, c2, c3, c4⟩)))
            · exact .inr (.inr (.inr (.inl ⟨c1, c2, c3⟩)))
          · exact .inr (.inr (.inl ⟨c1, c2⟩))
        · exact .inr (.inl (by omega))
      rcases hcs with ⟨x, z, hx, hz, hw1, hx1⟩ | hex
      · have hkP : k < P.length := (List.getElem?_eq_some_iff.1 hx).1
        have hkZ : k < Z.length := (List.getElem?_eq_some_iff.1 hz).1
        obtain ⟨pb, poff, rfl, hpx⟩ := HPC.out k x hx
        obtain ⟨zb, zoff, rfl, hzx⟩ := HZC.out k z hz
        have hpl := cell_lt hpx
        have hzl := cell_lt hzx
        simp only at hpl hzl
        have u1 := (HBW.out.cell (p := ⟨pb, poff + k, none⟩) hpl).trans hpx
        have u2 := (HBW.out.cell (p := ⟨zb, zoff + k, none⟩) hzl).trans hzx
        have hzw := HZW.out z (List.mem_of_getElem? hz)
        obtain ⟨at_, hal, hcase⟩ : ∃ at_ : Nat, at_ ≤ want.length ∧ ((decide (z < 0) = true ∧ True ∧ at_ = wl) ∨ (decide (z < 0) = false ∧ decide ((wl : Int) < z) = true ∧ at_ = wl) ∨ (z = at_ ∧ decide ((at_ : Int) < 0) = false ∧ decide (wl < at_) = false)) := by
          by_cases c1 : z < 0
          · exact ⟨wl, Nat.le_of_eq HWQ.out, .inl ⟨decide_eq_true c1, trivial, rfl⟩⟩
          · by_cases c2 : (wl : Int) < z
            · exact ⟨wl, Nat.le_of_eq HWQ.out, .inr (.inl ⟨decide_eq_false c1, decide_eq_true c2, rfl⟩)⟩
            · exact ⟨z.toNat, by have := HWQ.out; omega, .inr (.inr ⟨by omega, decide_eq_false (by omega), decide_eq_false (by omega)⟩)⟩
        have HPX := Lib.hid hpx
        have b3 : decide ((wl : Int) < 100000) = true := decide_eq_true (by have := HWQ.out; omega)
        have b4 : decide ((x.size : Int) < 100000) = true := decide_eq_true (by omega)
        have HW1 := Lib.hid hw1
        have HX1 := Lib.hid hx1
        have HXK := Lib.hid hx
        have HZW' := Lib.hid hzw
        have HAL := Lib.hid hal
        clear hpx hzx hx hz hw1 hx1 hzw hal
        rcases hcase with ⟨b1, b2, rfl⟩ | ⟨b1, b2, rfl⟩ | ⟨rfl, b1, b2⟩
        all_goals
          go_wp2_with fail
          clear b1 b2 b3 b4 u1 u2
          have HSK := Lib.hid (seek_reads HAT.out (by omega) HAL.out (by have := HAL.out; have := HW1.out; omega))
          refine HSK.out.mono ?_
          rintro e w3 ⟨rfl, hsk⟩
          have hb3 := hsk
          obtain ⟨_, _, _, _, _, _, _, _, hb3⟩ := hb3
          have v1 := (hb3.cell (p := ⟨pb, poff + k, none⟩) hpl).trans HPX.out
          have HWR := Lib.hid (write_reads (t := x) hsk (by omega) HAL.out (by have := HAL.out; have := HW1.out; have := HX1.out; omega))
          clear hsk hb3 HSK
          go_wp2_with fail
          refine HWR.out.mono ?_
          rintro e w4 ⟨rfl, hwr⟩
          have HWW := Lib.hid hwr
          clear hwr v1 HWR
          go_wp2
          go_loopw [12, 16] (fun wv kk wr4 => InRel w p name want at_ x.data.toList (1 + 2 * k + 1 + 1) wv kk wr4) (fun _ kk _ => x.size - (intOf kk).toNat)
          case atStart => exact ⟨0, Nat.zero_le _, rfl, by rw [List.take_zero, over_nil]; exact HWW.out⟩
          case round =>
            obtain ⟨q, hq, rfl, hin⟩ := hrel
            rename_i wr5
            have hin0 := hin
            obtain ⟨_, _, _, _, _, _, hrow, _, hb5⟩ := hin0
            obtain ⟨wa', wc', rfl, _⟩ := hrow.cells
            have v1 := (hb5.cell (p := ⟨pb, poff + k, none⟩) hpl).trans HPX.out
            have hlen := over_len (want := want) (at_ := at_) (x.data.toList.take q) HAL.out
            have hxl : x.data.toList.length = x.size := by simp
            rw [List.length_take, hxl, Nat.min_eq_left (by omega : q ≤ x.size)] at hlen
            have hta : at_ + (x.data.toList.take q).length = at_ + q := by rw [List.length_take, hxl]; omega
            by_cases hlt : q < x.size
            · have hsn := take_snoc x q hlt
              by_cases c2 : at_ + q < want.length
              · obtain ⟨gq, cq, e1, e2, e3, e4, e5, e6⟩ := reads_set hin (at_ + q) (by omega) x[q]
                have hov := over_set (c := x[q]) (by rw [hta]; exact c2 : at_ + (x.data.toList.take q).length < want.length)
                rw [hta, ← hsn] at hov
                rw [← hov] at e6
                obtain ⟨uo, huo⟩ := Option.isSome_iff_exists.1 e5
                clear e5
                have hjl : at_ + q < (over want at_ (x.data.toList.take q)).length := by omega
                obtain ⟨ll, hll⟩ : ∃ ll, ll = (over want at_ (x.data.toList.take q)).length := ⟨_, rfl⟩
                rw [← hll] at e1 hjl e6
                rw [← hll]
                have E6 := Lib.hid e6
                clear e6
                injection e1 with e1 e1' e1''
                subst e1 e1''
                have hat2 : at_ ≤ 200000 := by have := HAL.out; have := HW1.out; omega
                have hq2 : q ≤ 100000 := by have := HX1.out; omega
                clear hin hrow hb5 hlen hta hsn hov hll hxl hq c2
                go_wp2
                go_roundw
                case rel => exact ⟨q + 1, by simp; omega, by go_num, E6.out⟩
                case measure => simp [intOf]; omega
              · have hov := over_push (want := want) (at_ := at_) (t := x.data.toList.take q) (c := x[q]) (by rw [hta]; omega)
                rw [← hsn] at hov
                obtain ⟨wv', w6, hra, hre⟩ := reads_push hin (by have := HAL.out; have := HW1.out; have := HX1.out; omega) x[q]
                rw [← hov] at hre
                have HRE := Lib.hid hre
                have HRA := Lib.hid hra
                have hjl : (over want at_ (x.data.toList.take q)).length ≤ at_ + q := by omega
                obtain ⟨ll, hll⟩ : ∃ ll, ll = (over want at_ (x.data.toList.take q)).length := ⟨_, rfl⟩
                rw [← hll] at hjl HRA
                rw [← hll]
                have hat2 : at_ ≤ 200000 := by have := HAL.out; have := HW1.out; omega
                have hq2 : q ≤ 100000 := by have := HX1.out; omega
                clear hin hrow hb5 hlen hta hsn hov hre hra hll hxl hq c2
                have hra' := HRA.out
                go_wp2_with (at_builtin; refine Lib.wpList_append_run _ rfl _ _ _ _ rfl _ _ rfl rfl _ _ hra' ?_)
                go_roundw
                case rel => exact ⟨q + 1, by simp; omega, by go_num, HRE.out⟩
                case measure => simp [intOf]; omega
            · obtain rfl : q = x.size := by omega
              have ht : x.data.toList.take x.size = x.data.toList := by rw [← hxl, List.take_length]
              rw [ht] at hin
              rw [ht]
              have HIN := Lib.hid hin
              have hol := over_len (want := want) (at_ := at_) x.data.toList HAL.out
              have HOL : Hid ((over want at_ x.data.toList).length ≤ 200000) := Lib.hid (by have := HAL.out; have := HW1.out; have := HX1.out; omega)
              clear hin hrow hb5 hlen hta hxl ht hol hq
              go_wp2
              go_roundw
              case rel => exact ⟨k + 1, _, by omega, by go_num, HOL.out, by rw [show 1 + 2 * (k + 1) = 1 + 2 * k + 1 + 1 by omega]; exact HIN.out⟩
              case measure => simp [intOf]; omega
      · have hex' : (P.length = k) ∨ (k < P.length ∧ ¬ k < Z.length) ∨ (k < P.length ∧ k < Z.length ∧ decide ((wl : Int) < 100000) = false) ∨
            (∃ x pb poff, pa = some ⟨pb, poff, none⟩ ∧ wr.cell? ⟨pb, poff + k, none⟩ = some (.string x) ∧ k < P.length ∧ k < Z.length ∧ decide ((wl : Int) < 100000) = true ∧ decide ((x.size : Int) < 100000) = false) := by
          rcases hex with h1 | ⟨h1, h2⟩ | ⟨h1, h2, h3⟩ | ⟨x, h1, h2, h3, h4⟩
          · exact .inl h1
          · exact .inr (.inl ⟨h1, h2⟩)
          · exact .inr (.inr (.inl ⟨h1, h2, decide_eq_false (by have := HWQ.out; omega)⟩))
          · obtain ⟨pb, poff, e, hpx⟩ := HPC.out k x h1
            exact .inr (.inr (.inr ⟨x, pb, poff, e, (HBW.out.cell (p := ⟨pb, poff + k, none⟩) (cell_lt hpx)).trans hpx, (List.getElem?_eq_some_iff.1 h1).1, h2, decide_eq_true (by have := HWQ.out; omega), decide_eq_false (by omega)⟩))
        clear HZW HPS HZC HPC hex
        have HOP := Lib.hid (open_reads HAT.out (by omega) Hn.out)
        have hwl2 : wl ≤ 200000 := by have := HWQ.out; have := HWL.out; omega
        rcases hex' with rfl | ⟨h1, h2⟩ | ⟨h1, h2, b3⟩ | ⟨x, pb, poff, rfl, u1, h1, h2, b3, b4⟩
        all_goals
          go_wp2_with fail
          refine HOP.out.mono ?_
          rintro e w3 ⟨rfl, h3⟩
          have H3 := Lib.hid h3
          clear h3
          go_wp2_with fail
          have HSZ := size_reads H3.out
          rw [← HWQ.out] at HSZ
          refine HSZ.mono ?_
          clear HSZ
          rintro e w' ⟨rfl, rfl⟩
          go_wp2_with fail
          rw [show ((wl : Int) / 2) = ((wl / 2 : Nat) : Int) from by omega]
          have HD1 := Lib.hid (read_reads (wl / 2) H3.out (by omega) (by omega))
          clear H3
          refine HD1.out.mono ?_
          obtain ⟨j1, j2, j3⟩ := reads_join want (wl / 2) (by have := HWQ.out; omega)
          obtain ⟨f1, hf1⟩ : ∃ f1, f1 = M.strOf ((want.drop 0).take (wl / 2)) := ⟨_, rfl⟩
          rw [← hf1]
          rintro e w4 ⟨rfl, h4⟩
          have H4 := Lib.hid h4
          have HF1 := Lib.hid hf1
          clear h4 HD1 HOP hf1
          go_wp2_with fail
          rw [show ((wl : Int) + 1) = ((wl + 1 : Nat) : Int) from by omega]
          have HD2 := Lib.hid (read_reads (wl + 1) H4.out (by omega) (by omega))
          clear H4
          refine HD2.out.mono ?_
          rw [show wl + 1 = want.length + 1 from by rw [HWQ.out]]
          obtain ⟨f2, hf2⟩ : ∃ f2, f2 = M.strOf ((want.drop (0 + ((want.drop 0).take (wl / 2)).length)).take (want.length + 1)) := ⟨_, rfl⟩
          rw [← hf2]
          have hE : f1 ++ f2 = M.strOf want := by rw [HF1.out, hf2]; exact j1
          have HE := Lib.hid hE
          have J2 := Lib.hid j2
          rintro e w5 ⟨rfl, h5⟩
          have H5 := Lib.hid h5
          clear h5 HD2 hf2 hE j1 j2 j3 HF1
          go_wp2_with fail
          refine (read_reads 5 H5.out (by omega) (by omega)).mono ?_
          rw [J2.out]
          rintro e w6 ⟨rfl, h6⟩
          obtain ⟨_, _, _, _, _, _, hrow6, _, hb6⟩ := h6
          have hconv := conv_rd w6 wa want wl wc HWQ.out (fun j u hu => by obtain ⟨a', c', e1, _, e2⟩ := hrow6.cells; cases e1; obtain ⟨q, e3, e4⟩ := e2 j u hu; exact ⟨_, e3, by rw [add_0]; exact e4⟩)
          have HB6 := Lib.hid hb6
          have hsz : ¬ 9223372036854775807 < f1.size + f2.size := by
            have e := congrArg ByteArray.size HE.out
            rw [ByteArray.size_append] at e
            have e2 : (M.strOf want).size = wl := by rw [HWQ.out]; simp [M.strOf, ByteArray.size]
            omega
          have hE := HE.out
          clear hrow6 hb6 H5 J2
          go_wp2
          go_ret
          exact ⟨rfl, HB6.out⟩
end Go.Proofs.Ytpkhghjmelgpeaa.Wk
set_option linter.unusedVariables false
namespace Go.Proofs.Ytpkhghjmelgpeaa.Wk
open Go.ChangeShapes Go.WideShapes Go.ChangeAt Go.RowKit M Go.Maps Go.Proofs

theorem bulk_one {H : Type} (d : DataW H) : 1 ≤ Rows.uptoBulk d := by
  cases d with
  | lit l => cases l <;> simp [Rows.uptoBulk]
  | nil => simp [Rows.uptoBulk]
  | ptr d => simp [Rows.uptoBulk]
  | slice elems spare => simp [Rows.uptoBulk]
  | agg parts => simp [Rows.uptoBulk]
  | iface t d => simp [Rows.uptoBulk]
  | map entries => simp [Rows.uptoBulk]
  | held h => simp [Rows.uptoBulk]
theorem bulk_len {H : Type} (l : List (DataW H)) : l.length ≤ Rows.uptoBulkAll l := by
  induction l with
  | nil => simp [Rows.uptoBulkAll]
  | cons x r ih => have := bulk_one x; simp only [Rows.uptoBulkAll, List.length_cons]; omega
theorem bulk_part {H : Type} {d : DataW H} {l : List (DataW H)} (h : d ∈ l) : Rows.uptoBulk d ≤ Rows.uptoBulkAll l := by
  induction l with
  | nil => cases h
  | cons x r ih =>
    simp only [Rows.uptoBulkAll]
    cases List.mem_cons.1 h with
    | inl e => subst e; omega
    | inr e => have := ih e; omega
theorem bulk_slice {H : Type} (d : DataW H) : Go.Joins.sliceLen d ≤ Rows.uptoBulk d := by
  cases d with
  | slice elems spare => have := bulk_len elems; simp only [Go.Joins.sliceLen, Rows.uptoBulk]; omega
  | lit l => exact Nat.zero_le _
  | nil => exact Nat.zero_le _
  | ptr d => exact Nat.zero_le _
  | agg parts => exact Nat.zero_le _
  | iface t d => exact Nat.zero_le _
  | map entries => exact Nat.zero_le _
  | held h => exact Nat.zero_le _
theorem bulk_bound {H : Type} {l : List (DataW H)} (hk : Rows.uptoSmall H l = true) : Rows.uptoBulkAll l ≤ 1048576 := of_decide_eq_true hk
theorem bulk_of {H : Type} {l : List (DataW H)} (hk : Rows.uptoSmall H l = true) {d : DataW H} (h : d ∈ l) : Go.Joins.sliceLen d ≤ 1048576 :=
  Nat.le_trans (bulk_slice d) (Nat.le_trans (bulk_part h) (bulk_bound hk))
end Go.Proofs.Ytpkhghjmelgpeaa.Wk
set_option linter.unusedVariables false
namespace Go.Proofs.Ytpkhghjmelgpeaa.Wk
open Go.ChangeShapes Go.WideShapes Go.ChangeAt Go.RowKit M Go.Maps Go.Proofs

set_option maxRecDepth 100000 in
theorem WorldReads_walk {H : Type} {enc : TypeId × Value → H} {base : Nat} {d0 d1 d2 : DataW H} {p1 p2 : List MemPlace} (name : ByteArray) (zv pv : Value) (w : World) (hn : name.size ≤ maxLen) (hz : Value.okWide Try.prog w .any base 39 zv) (h1 : DataW.Trod enc Try.prog w 0 (fun _ => true) true 39 zv d1 p1) (hp : Value.okWide Try.prog w .any base 40 pv) (h2 : DataW.Trod enc Try.prog w 0 (fun _ => true) true 40 pv d2 p2) (hk : Rows.uptoSmall H [d0, d1, d2] = true) :
    Calls Try.prog 4 #[.string name, zv, pv] w fun e w' => e = .returned (.bool true) ∧ Below w.heap.size w w' := by
  obtain ⟨Z, a1, a2, a3, a4⟩ := open_places hz h1
  obtain ⟨P, b1, b2, b3, b4⟩ := open_pieces hp h2
  exact WorldReads_in name Z P zv pv w a1 b1 hn a4 b4 (Nat.le_trans b3 (bulk_of hk (by simp))) (Nat.le_trans a3 (bulk_of hk (by simp)))
end Go.Proofs.Ytpkhghjmelgpeaa.Wk
namespace Go.Proofs.Ytpkhghjmelgpeaa.worldReadsF
open Go.ChangeShapes Go.WideShapes Go.ChangeAt Go.RowKit
open Go.ChangeMaps (open_string shut_string)
set_option linter.unusedVariables false
theorem own : ownKnob Try.prog.godebug = none := by kernel_rfl
theorem laidOut : laidOutB Try.prog = true := by kernel_rfl
set_option maxRecDepth 100000 in
theorem lifted (os : Os) (started : os.Started) (H : Type) (enc : TypeId × Value → H) (F : Stop.Interp) :
    ReturnsInHanded {} Try.checked os 4 .any ((Rows.OpenSpec.upto Rows.worldReadsSpec).pre6 enc Try.prog Try.f4 Rows.worldReadsUptoRow.domain false) (((Rows.OpenSpec.upto Rows.worldReadsSpec).at F).post enc Try.prog Try.f4 false true false false) := by
  refine returnsInHanded_of_cond (C := Try.checked) (s := Rows.OpenSpec.upto Rows.worldReadsSpec) (k := Rows.uptoSmall) rfl own started (by kernel_rfl) Try.func4
    (OpenSpec.witness (enc := enc) (C := Try.checked) (s := Rows.OpenSpec.upto Rows.worldReadsSpec) (k := Rows.uptoSmall) rfl false ⟨#[], #[.string ByteArray.empty, .slice none 0 0, .slice none 0 0], []⟩ 8 (by kernel_rfl) (by kernel_rfl) (by kernel_rfl) (by kernel_rfl)
      (x := ([.lit (.string []), .nil, .nil], [], [])) (by kernel_rfl) rfl (by kernel_rfl)) ?_
  intro W base args ds gs before hval0 hW _ hk _
  have hval : ∀ (j : Nat) t v, Try.f4.params[j]? = some t → args[j]? = some v → Value.okWide Try.prog W .any base t v := hval0
  have hW' := hW
  obtain ⟨p, q, hA0, hV, rfl, hfz, hnd⟩ := hW
  have hA : DataW.TrodAll enc Try.prog W 0 (fun _ => true) true Try.f4.params.toList args.toList ds p := hA0
  rw [Try.params4] at hA hval
  obtain ⟨v0, vs0, d0, ds0, p0, q0, hargs, rfl, rfl, h0, r0⟩ := trodAll_cons hA
  obtain ⟨v1, vs1, d1, ds1, p1, q1, rfl, rfl, rfl, h1, r1⟩ := trodAll_cons r0
  obtain ⟨v2, vs2, d2, ds2, p2, q2, rfl, rfl, rfl, h2, r2⟩ := trodAll_cons r1
  obtain ⟨rfl, rfl, rfl⟩ := trodAll_nil r2
  obtain rfl : args = #[v0, v1, v2] := by cases args; simp_all
  obtain ⟨rfl, rfl⟩ := trodVars_none hV
  obtain ⟨a0, rfl, rfl, rfl, w0⟩ := open_string Try.underlying9 (hval 0 9 v0 rfl rfl) h0
  have lt1 : ∀ x ∈ p1, x.block < W.heap.size := by obtain ⟨m, hm⟩ := h1; exact DataW.trod_lt m _ _ _ hm
  have lt2 : ∀ x ∈ p2, x.block < W.heap.size := by obtain ⟨m, hm⟩ := h2; exact DataW.trod_lt m _ _ _ hm
  clear hA0 hval0
  refine (Wk.WorldReads_walk a0 v1 v2 W w0 (hval 1 39 v1 rfl rfl) h1 (hval 2 40 v2 rfl rfl) h2 hk).mono fun e W' ⟨he, bel⟩ => ?_
  subst he
  exact ⟨_, rfl, _, _, _, [], _, [], hW', trodAll_mk1 (shut_bool Try.underlying4 _), (trodAll_cons_mk (shut_string Try.underlying9 w0) (trodAll_cons_mk (Below.trod laidOut (by kernel_rfl) (of_decide_eq_true (by kernel_rfl)) h1 bel lt1) (trodAll_cons_mk (Below.trod laidOut (by kernel_rfl) (of_decide_eq_true (by kernel_rfl)) h2 bel lt2) trodAll_mk0))), rfl, bel.frame _, fun h => by cases h⟩
theorem over : Rows.worldReadsUptoRow.holds Try.pinned (Rows.OpenSpec.upto Rows.worldReadsSpec) :=
  OpenClaim.holds_of_cond 4 Try.f4 rfl rfl rfl rfl rfl rfl rfl ⟨rfl, rfl, rfl, rfl, rfl⟩ rfl rfl rfl rfl rfl (by kernel_rfl) Try.func4 (by kernel_rfl)
    (of_decide_eq_true (by kernel_rfl)) (by unfold Func.isWrapper; first | (rw [if_pos (by decide +kernel)]; kernel_rfl) | (rw [if_neg (by decide +kernel)]; exact ⟨rfl, rfl⟩))
    (fun os started H enc _ F => lifted os started H enc F)
theorem proved : Rows.WorldReadsUptoSaid := over
#print axioms proved
end Go.Proofs.Ytpkhghjmelgpeaa.worldReadsF
