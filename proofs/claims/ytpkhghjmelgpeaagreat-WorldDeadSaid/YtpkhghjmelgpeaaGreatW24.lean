/- Files. -/
import Derived.Test.YtpkhghjmelgpeaaGreatSk
import Derived.Sort.KeysCollected
set_option linter.unusedVariables false
namespace Go.Proofs.YtpkhghjmelgpeaaGreat.Wk
open Go.ChangeShapes Go.WideShapes Go.ChangeAt Go.RowKit M Go.Maps Go.Sort Go.Shelf Go.Proofs

theorem toRow {w : World} {B : Nat} {e : TypeId} {z : Nat} {v : Value} {n : Nat} {xs : List Value} (h : w.ownsRow B e z v n xs) : Row w e z v n xs := by
  refine ⟨h.1, ?_⟩
  rcases h.2 with ⟨rfl, rfl⟩ | ⟨g, cap, cur, rfl, hb, hg, h1, h2, h3, h4⟩
  · exact .inl ⟨rfl, none, rfl⟩
  · by_cases hc : cap = 0
    · subst hc; exact .inl ⟨by omega, _, by congr 1; omega⟩
    · exact .inr ⟨g, cap, cur, rfl, by omega, ⟨_, hg, .inl (Nat.le_refl _)⟩, h1, h2, h3, h4⟩

def names (s : St) : List (List UInt8) := (s.fs.filter fun f => decide (f.name ≠ noS)).map fun f => f.name.data.toList
def nowAt (s : St) (n : List UInt8) : List UInt8 := match find s.fs (M.strOf n) with | some i => nowOf s.fs i | none => []
def sortedNames (s : St) : List (List UInt8) := (names s).mergeSort fun x y => decide (x ≤ y)
def filesOf (s : St) : List (ByteArray × ByteArray) := (sortedNames s).map fun n => (M.strOf n, M.strOf (nowAt s n))
def flcells (x : ByteArray × ByteArray) : List Value := [.string x.1, .string x.2]

theorem strOf_inj {a b : ByteArray} (h : a.data.toList = b.data.toList) : a = b := by cases a with | mk a => cases b with | mk b => congr; exact Array.ext' h
theorem strOf_back (a : ByteArray) : M.strOf a.data.toList = a := by cases a; rfl
theorem strOf_data (l : List UInt8) : (M.strOf l).data.toList = l := rfl
theorem mem_names {s : St} {x : List UInt8} : x ∈ names s ↔ (find s.fs (M.strOf x)).isSome = true := by
  unfold names
  constructor
  · intro h
    obtain ⟨f, hf, rfl⟩ := List.mem_map.1 h
    obtain ⟨h1, h2⟩ := List.mem_filter.1 hf
    rw [strOf_back]
    cases hq : find s.fs f.name with
    | some i => rfl
    | none => exact absurd rfl (find_none hq (by simpa using h2) f h1)
  · intro h
    cases hq : find s.fs (M.strOf x) with
    | none => rw [hq] at h; cases h
    | some i =>
      obtain ⟨f, h1, h2, h3⟩ := find_some hq
      refine List.mem_map.2 ⟨f, List.mem_filter.2 ⟨List.mem_of_getElem? h1, by simpa [h2] using h3⟩, by rw [h2]; rfl⟩
theorem nodup_names {s : St} (h : Wf s) : (names s).Nodup := by
  unfold names
  have hp : (s.fs.filter fun f => decide (f.name ≠ noS)).Pairwise (fun a b => a.name.data.toList ≠ b.name.data.toList) := by
    rw [List.pairwise_filter, List.pairwise_iff_getElem]
    intro i j hi hj hij h1 h2 e
    have := h.names i j _ _ (List.getElem?_eq_getElem hi) (List.getElem?_eq_getElem hj) (strOf_inj e) (by simpa using h1)
    omega
  exact List.pairwise_map.2 hp
theorem names_perm {own : Own} {w : World} {p : Nat} {s : St} {g : Gh} (h : Rep own w p s g) : (names s).Perm (strKeys g.Df) := by
  obtain ⟨es, hD, hp, _⟩ := h.fmap.entries lawS
  obtain ⟨es', hD', hk⟩ := h.fmap.keysOf
  rw [hD] at hD'; cases hD'
  have hmem : ∀ x, x ∈ names s ↔ Maps.has (.map es) (.string x) = true := by
    intro x
    rw [mem_names, ← hD]
    by_cases hx : (M.strOf x).size ≤ maxLen
    · have := (h.fis.at_ (M.strOf x) hx).2
      rw [show skey (M.strOf x) = Lit.string x from rfl] at this
      rw [this]
    · constructor
      · intro hs
        cases hq : find s.fs (M.strOf x) with
        | none => rw [hq] at hs; cases hs
        | some i =>
          obtain ⟨f, h1, h2, h3⟩ := find_some hq
          have := h.wf.isName f (List.mem_of_getElem? h1) (by rw [h2]; exact h3)
          rw [h2] at this
          unfold M.isName at this
          simp only [Bool.and_eq_true, decide_eq_true_eq] at this
          unfold maxLen at hx; omega
      · intro hs
        have hm : x ∈ strKeys g.Df := by
          rw [hD, Maps.has_eq] at hs
          obtain ⟨q, hq1, hq2⟩ := List.any_eq_true.1 hs
          rw [hD]
          exact List.mem_map.2 ⟨q, hq1, by rw [WideAt.sameKey_eq hq2]; rfl⟩
        have := strKeys_le h.fmap Tryz.underlying9 x hm
        exact absurd (by simpa [M.strOf, ByteArray.size] using this) hx
  rw [hD]
  exact perm_strKeys hp (fun q hq => by obtain ⟨v, hv⟩ := hk q hq; obtain ⟨y, _, hy, _⟩ := Maps.keyOf_str Tryz.underlying9 hv; exact ⟨y, hy⟩) (nodup_names h.wf) hmem

theorem infoFl : (Tryz.prog.info? 74).map (fun i => (i.zero, i.size, i.bytes)) = some (some (.agg #[.string ⟨#[]⟩, .string ⟨#[]⟩]), 2, 32) := by kernel_rfl
/-- The list of files, one more. -/
theorem append_file (W : World) (v : Value) (l : List (ByteArray × ByteArray)) (hrow0 : Row W 74 2 v l.length (l.flatMap flcells)) (x : ByteArray × ByteArray) (ht : l.length ≤ 1099511627776) :
    ∃ v' w2, (Builtin.append_ #[23, 23] 23 #[v, .slice (some ⟨W.heap.size, 0, none⟩) 1 1]).run Tryz.prog (W.alloc (.cells #[.string x.1, .string x.2] 74)) = .ok v' w2 ∧
      Row w2 74 2 v' (l ++ [x]).length ((l ++ [x]).flatMap flcells) ∧ W.grownBy w2 (blk v) ∧ (blk v' = blk v ∨ ∀ k, blk v' = some k → W.heap.size ≤ k) := by
  obtain ⟨i, hi, hz0, hz1, hz2⟩ := info_parts infoFl
  have hrow : Row (W.alloc (.cells #[.string x.1, .string x.2] 74)) 74 2 v l.length (l.flatMap flcells) := hrow0.kept fun k hk => Below.heap_alloc W _ k (hrow0.lt k hk)
  have hsrc : Src Tryz.prog 2 23 (.slice (some ⟨W.heap.size, 0, none⟩) 1 1) 1 (flcells x) (W.alloc (.cells #[.string x.1, .string x.2] 74)) := by
    refine Src.ofSlice (P := Tryz.prog) _ Tryz.underlying23 _ 1 1 (flcells x) rfl (fun j u hu => ?_) (by intro u hu; simp [flcells] at hu; rcases hu with rfl | rfl <;> rfl)
    rw [add_0, cell_blk (heap_alloc_new W _)]
    simpa [flcells] using hu
  obtain ⟨v', w2, hr, h2, hg, hb⟩ := hrow.append (P := Tryz.prog) 23 23 23 i _ 32 Tryz.underlying23 hi hz0 hz1 hz2 (by rfl) _ 1 (flcells x) hsrc (by omega) (by unfold maxLen; omega) (by omega)
  refine ⟨v', w2, hr, by simpa using h2, ⟨hg.os, hg.tape, hg.output, Nat.le_trans (by simp) hg.size, fun k hk hne => (hg.block k (by simp; omega) hne).trans (Below.heap_alloc W _ k hk)⟩, ?_⟩
  rcases hb with e | e
  · exact .inl e
  · exact .inr fun k hk => by rw [hk] at e; simp at e; omega

def FilesE (w : World) (l : List (ByteArray × ByteArray)) (e : Ending) (w' : World) : Prop :=
  ∃ v', e = .returned v' ∧ Row w' 74 2 v' l.length (l.flatMap flcells) ∧ Below w.heap.size w w' ∧ ∀ k, blk v' = some k → w.heap.size ≤ k
def FilesRel (w : World) (l : List (ByteArray × ByteArray)) (i lv : Value) (wr : World) : Prop :=
  ∃ k : Nat, k ≤ l.length ∧ i = .int .i64 k ∧ Row wr 74 2 lv (l.take k).length ((l.take k).flatMap flcells) ∧ Below w.heap.size w wr ∧ ∀ q, blk lv = some q → w.heap.size ≤ q

set_option maxHeartbeats 4000000 in
set_option maxRecDepth 100000 in
theorem files_any (own : Own) (w : World) (p : Nat) (s : St) (g : Gh) (h : Rep own w p s g) : Calls Tryz.prog 19 #[.pointer (some ⟨p, 0, none⟩)] w (FilesE w (filesOf s)) := by
  have hnp := names_perm h
  have hsz : Maps.size g.Df ≤ 64 := by rw [h.fis.size]; exact h.wf.full.1
  have hle : ∀ x ∈ strKeys g.Df, x.length ≤ maxLen := strKeys_le h.fmap Tryz.underlying9
  have c4 : w.cell? ⟨p, 4, none⟩ = some (.map (some g.fm)) := cell_blk h.wcell 4
  have HS := Lib.hid (sortedKeys_any g.fm g.nf g.Df Rp w h.fmap (by unfold maxLen; omega) (by omega))
  have HR := Lib.hid h
  have HNP := Lib.hid hnp
  have HLE := Lib.hid hle
  have hpl := blk_lt h.wcell
  have hlen : (names s).length ≤ 64 := by unfold names; rw [List.length_map]; exact h.wf.full.1
  clear h hnp hle hsz
  go_enter Tryz.func19, Tryz.ntmps19
  go_wp2_with fail
  refine (keys_any _ w).mono ?_
  rintro e w' ⟨rfl, rfl⟩
  go_wp2_with fail
  refine HS.out.mono ?_
  rintro e w1 ⟨v, ss, rfl, hperm, hrow, hnil, hb1⟩
  have hN : ss.mergeSort (fun x y => decide (x ≤ y)) = sortedNames s := mergeSort_of_perm (hperm.trans HNP.out.symm)
  rw [hN] at hrow
  have hssl : ss.length = (sortedNames s).length := by rw [← hN, List.length_mergeSort]
  rw [hssl] at hrow
  have hNl : (sortedNames s).length ≤ 64 := by unfold sortedNames; rw [List.length_mergeSort]; exact hlen
  have hmemN : ∀ x ∈ sortedNames s, (find s.fs (M.strOf x)).isSome = true ∧ (M.strOf x).size ≤ maxLen := fun x hx => by
    have : x ∈ names s := (List.mergeSort_perm _ _).mem_iff.1 hx
    exact ⟨mem_names.1 this, by have := HLE.out x (HNP.out.mem_iff.1 this); simpa [M.strOf, ByteArray.size] using this⟩
  obtain ⟨va, vc, rfl, hxl, hcell⟩ := (toRow hrow).cells
  have hB1 : Below w.heap.size w w1 := ((Below.refl _ _).alloc (Nat.le_refl _) _).trans (hb1.mono (by simp))
  have HB1 := Lib.hid hB1
  have HCE := Lib.hid hcell
  have HMN := Lib.hid hmemN
  clear hrow hssl hN hperm hnil hb1 hB1 hcell hmemN hxl HS
  have hfl : (filesOf s).length = (sortedNames s).length := by unfold filesOf; rw [List.length_map]
  have HFL := Lib.hid hfl
  clear hfl
  go_wp2
  go_loopw [13, 3] (fun i lv wr => FilesRel w1 (filesOf s) i lv wr) (fun i _ _ => (filesOf s).length - (intOf i).toNat)
  case atStart => exact ⟨0, Nat.zero_le _, rfl, Row.nil _ _ _, Below.refl _ _, by simp [blk]⟩
  case round =>
    obtain ⟨k, hk, rfl, hr, hbr, hlb⟩ := hrel
    have hfl := HFL.out
    by_cases hlt : k < (sortedNames s).length
    · obtain ⟨x, hx⟩ : ∃ x, (sortedNames s)[k]? = some x := ⟨_, List.getElem?_eq_getElem hlt⟩
      obtain ⟨m1, m2⟩ := HMN.out x (List.mem_of_getElem? hx)
      obtain ⟨i, hi⟩ := Option.isSome_iff_exists.1 m1
      obtain ⟨gb, rfl, hc⟩ := HCE.out k (.string (M.strOf x)) (by rw [List.getElem?_map, hx]; rfl)
      have hgl : gb < w1.heap.size := World.block_lt_of_cell? w1 ⟨gb, k, none⟩ hc
      have ck := (hbr.cell (p := ⟨gb, k, none⟩) hgl).trans hc
      have hRr := HR.out.below (HB1.out.trans (hbr.mono HB1.out.size)) (Nat.le_refl _)
      have r4 : wr.cell? ⟨p, 4, none⟩ = some (.map (some g.fm)) := cell_blk hRr.wcell 4
      have hlook := look_f hRr (M.strOf x) m2
      rw [hi] at hlook
      simp only [fval] at hlook
      obtain ⟨f, hf, _⟩ := find_some hi
      obtain ⟨_, bv, sv, uv, hfb, hbv, _⟩ := hRr.files i f hf
      obtain ⟨ba, bc, rfl, _, hbc⟩ := hbv.cells
      have f0 : wr.cell? ⟨g.fb i, 0, none⟩ = some (.slice ba f.now.length bc) := cell_blk hfb 0
      have hconv := conv_rd wr ba f.now f.now.length bc rfl (fun j u hu => by obtain ⟨q, e1, e2⟩ := hbc j u hu; exact ⟨_, e1, by rw [add_0]; exact e2⟩)
      have hxk : (filesOf s)[k]? = some (M.strOf x, M.strOf f.now) := by
        unfold filesOf; rw [List.getElem?_map, hx]
        simp only [Option.map_some]
        unfold nowAt; rw [hi]; simp only; rw [nowOf_get hf]
      obtain ⟨lv', w3, hra, hr3, hg3, hb3⟩ := append_file wr _ _ hr (M.strOf x, M.strOf f.now) (by simp; omega)
      obtain ⟨la, lc, rfl, _⟩ := hr.cells
      have HRA := Lib.hid hra
      have H3 := Lib.hid hr3
      have HG3 := Lib.hid hg3
      have HB3 := Lib.hid hb3
      have HBR := Lib.hid hbr
      have HLB := Lib.hid hlb
      have HXK := Lib.hid hxk
      clear hra hr3 hg3 hb3 hbr hlb hxk hx m1 hi hc hRr hf hfb hbv hbc hr
      have hra' := HRA.out
      go_wp2_with (at_builtin; refine Lib.wpList_append_run _ rfl _ _ _ _ rfl _ _ rfl rfl _ _ hra' ?_)
      go_roundw
      case rel =>
        have hkl : k < (filesOf s).length := by omega
        have et : (filesOf s).take (k + 1) = (filesOf s).take k ++ [(M.strOf x, M.strOf f.now)] := by
          rw [List.take_succ_eq_append_getElem hkl]
          congr 2
          exact (List.getElem?_eq_some_iff.1 HXK.out).2
        have hrow : blk (.slice la ((filesOf s).take k).length lc) = none ∨ ∃ q, blk (.slice la ((filesOf s).take k).length lc) = some q := by
          cases blk (.slice la ((filesOf s).take k).length lc) with
          | none => exact .inl rfl
          | some q => exact .inr ⟨q, rfl⟩
        refine ⟨k + 1, by omega, by go_num, by rw [et]; exact H3.out, ⟨HG3.out.os.trans HBR.out.os, HG3.out.tape.trans HBR.out.tape, HG3.out.output.trans HBR.out.output, Nat.le_trans HBR.out.size HG3.out.size, fun q hq => (HG3.out.block q (Nat.lt_of_lt_of_le hq HBR.out.size) (fun e => by have := HLB.out q e.symm; omega)).trans (HBR.out.block q hq)⟩, fun q hq => ?_⟩
        rcases HB3.out with e | e
        · rw [hq] at e; exact HLB.out q e.symm
        · have := e q hq; have := HBR.out.size; omega
      case measure => simp [intOf]; omega
    · obtain rfl : k = (filesOf s).length := by omega
      rw [List.take_length] at hr
      have H1 := Lib.hid hr
      have H2 := Lib.hid hbr
      have H3 := Lib.hid hlb
      clear hr hbr hlb
      go_wp2
      go_ret
      refine ⟨_, rfl, H1.out, HB1.out.trans (H2.out.mono HB1.out.size), fun q hq => ?_⟩
      have := H3.out q hq; have := HB1.out.size; omega
end Go.Proofs.YtpkhghjmelgpeaaGreat.Wk
