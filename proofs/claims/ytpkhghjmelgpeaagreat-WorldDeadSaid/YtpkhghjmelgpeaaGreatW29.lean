/- Ranging over the files. -/
import Derived.Test.YtpkhghjmelgpeaaGreatW28
set_option linter.unusedVariables false
namespace Go.Proofs.YtpkhghjmelgpeaaGreat.Wk
open Go.ChangeShapes Go.WideShapes Go.ChangeAt Go.RowKit M Go.Maps Go.Proofs

def mkP : Option Nat → Value
  | none => .pointer none
  | some b => .pointer (some ⟨b, 0, none⟩)

theorem wpList_next_files {w : World} {ops : Array Oper} {rest : List Oper} {o : Oper} {a : Act} {Q : Exit → Act → World → Prop} (hg : o.guard = none) (it : Operand) (hop : o.op = Op.next it false)
    (fs : List Fs) (fb : Nat → Nat) (b r n : Nat) (D : DataW Unit) (hD : FMap D fs fb) (left : Lit → Bool) (cnt : Nat) (hit : a.eval it = .pointer (some ⟨r, 0, none⟩)) (h : w.ranges Tryz.prog 9 Rp b r n D left cnt)
    (hDone : (∀ kl, left kl = false) → wpList Tryz.prog ops Q rest (a.put o.dst (.tuple #[.bool false])) w)
    (hMore : ∀ (t : ByteArray) (i : Nat) (w' : World) (cnt' : Nat), t.size ≤ maxLen → left (skey t) = true → find fs t = some i → w'.ranges Tryz.prog 9 Rp b r n D (fun z => left z && !z.sameKey (skey t)) cnt' → cnt' < cnt →
      w.grownBy w' (some r) → w'.heap.size = w.heap.size → (Instr.entry (.pointer (some ⟨r, 0, none⟩))).run Tryz.prog w' = .ok (.tuple #[.string t, .pointer (some ⟨fb i, 0, none⟩)]) w' → wpList Tryz.prog ops Q rest (a.put o.dst (.tuple #[.bool true, .string t, .pointer (some ⟨fb i, 0, none⟩)])) w') :
    wpList Tryz.prog ops Q (o :: rest) a w :=
  wpList_next_ranges w hg it hop 9 lawS Rp Value.string mkP
    (fun key kl hk => by obtain ⟨x, hx, _⟩ := Maps.keyOf_str Tryz.underlying9 hk; exact ⟨⟨x.toArray⟩, by simpa [encStr] using hx⟩)
    (fun v y hv => by
      unfold Rp at hv
      split at hv
      · exact ⟨none, rfl⟩
      · exact ⟨some _, rfl⟩
      · cases hv)
    b r n D left cnt hit h (fun _ => hDone)
    (fun t c kl y w' cnt' hkey hlk hv hat hrg hlt hgr hsz hen => by
      obtain ⟨x, ex, rfl, hx⟩ := Maps.keyOf_str Tryz.underlying9 hkey
      obtain rfl : x = t.data.toList := by
        have : t = ⟨x.toArray⟩ := Value.string.inj ex
        rw [this]
      have hts : t.size ≤ maxLen := by show t.data.size ≤ maxLen; rw [← Array.length_toList]; exact hx
      obtain ⟨h1, h2⟩ := hD.at_ t hts
      have hq := hat .nil
      have hhas : Maps.has D (skey t) = true := Maps.has_true_of_atKey hat
      rw [h2] at hhas
      obtain ⟨i, hi⟩ := Option.isSome_iff_exists.1 hhas
      rw [show Lit.string t.data.toList = skey t from rfl, h1, hi] at hq
      have hm : mkP c = .pointer (some ⟨fb i, 0, none⟩) := Rp_pd (ps := y.2) (by rw [hv]; show some y = some (pd (fb i), y.2); rw [show pd (fb i) = y.1 from hq])
      rw [hm] at hen ⊢
      exact hMore t i w' cnt' hts hlk hi hrg hlt hgr hsz hen)

structure Went (fs : List Fs) (left : Lit → Bool) (is : List Nat) : Prop where
  nd : is.Nodup
  mem : ∀ t i, t.size ≤ maxLen → find fs t = some i → (i ∈ is ↔ left (skey t) = false)
  has : ∀ i ∈ is, ∃ t, t.size ≤ maxLen ∧ find fs t = some i
theorem Went.start {D : DataW Unit} {fs : List Fs} {fb : Nat → Nat} (h : FMap D fs fb) : Went fs (Maps.has D) [] := by
  refine ⟨List.nodup_nil, fun t i ht hf => ?_, fun i hi => by cases hi⟩
  rw [(h.at_ t ht).2, hf]; simp
theorem skey_same (s t : ByteArray) : (skey s).sameKey (skey t) = decide (s = t) := by
  unfold skey
  by_cases h : s = t
  · subst h; simp [Lit.sameKey]
  · have : ¬ s.data = t.data := fun e => h (strOf_inj (by rw [e]))
    simp [Lit.sameKey, h, this]
theorem Went.step {fs : List Fs} {left : Lit → Bool} {is : List Nat} (h : Went fs left is) {t : ByteArray} {i : Nat} (ht : t.size ≤ maxLen) (hl : left (skey t) = true) (hf : find fs t = some i) : Went fs (fun z => left z && !z.sameKey (skey t)) (is ++ [i]) := by
  have hni : i ∉ is := fun e => by have := (h.mem t i ht hf).1 e; rw [hl] at this; cases this
  refine ⟨List.nodup_append.2 ⟨h.nd, by simp, fun a ha b hb => by simp at hb; subst hb; exact fun e => hni (e ▸ ha)⟩, fun t' j ht' hf' => ?_, fun j hj => ?_⟩
  · rw [skey_same]
    by_cases he : t' = t
    · subst he; rw [hf] at hf'; cases hf'; simp
    · have hij : j ≠ i := fun e => by
        subst e
        obtain ⟨f, h1, h2, _⟩ := find_some hf
        obtain ⟨g, h3, h4, _⟩ := find_some hf'
        rw [h1] at h3; cases h3; exact he (h4.symm.trans h2)
      simp [h.mem t' j ht' hf', he, hij]
  · rcases List.mem_append.1 hj with h1 | h1
    · exact h.has j h1
    · simp at h1; subst h1; exact ⟨t, ht, hf⟩

def isNamed (fs : List Fs) (i : Nat) : Bool := match fs[i]? with | some f => decide (f.name ≠ noS) | none => false
def namedIx (fs : List Fs) : List Nat := (List.range fs.length).filter (isNamed fs)
def riskedOf (fs : List Fs) (i : Nat) : List Nat := match fs[i]? with | some f => (f.uns.take 64).map (·.ord) | none => []
def ordersOf (fs : List Fs) : List Nat := ((namedIx fs).flatMap (riskedOf fs)).mergeSort fun a b => decide (a ≤ b)

theorem name_size {s : St} (h : Wf s) {f : Fs} (hf : f ∈ s.fs) (hn : f.name ≠ noS) : f.name.size ≤ maxLen := by
  have := h.isName f hf hn
  unfold M.isName at this
  simp only [Bool.and_eq_true, decide_eq_true_eq] at this
  unfold maxLen; omega
theorem find_self {s : St} (h : Wf s) {i : Nat} {f : Fs} (hf : s.fs[i]? = some f) (hn : f.name ≠ noS) : find s.fs f.name = some i := by
  cases hq : find s.fs f.name with
  | none => exact absurd rfl (find_none hq hn f (List.mem_of_getElem? hf))
  | some j =>
    obtain ⟨g, h1, h2, h3⟩ := find_some hq
    rw [h.names i j f g hf h1 h2.symm hn]
theorem Went.perm {s : St} {left : Lit → Bool} {is : List Nat} (h : Went s.fs left is) (hw : Wf s) (hl : ∀ kl, left kl = false) : is.Perm (namedIx s.fs) := by
  refine (List.perm_ext_iff_of_nodup h.nd (List.Pairwise.filter _ List.nodup_range)).2 fun i => ?_
  rw [List.mem_filter, List.mem_range]
  unfold isNamed
  constructor
  · intro hi
    obtain ⟨t, ht, hf⟩ := h.has i hi
    obtain ⟨f, h1, h2, h3⟩ := find_some hf
    refine ⟨(List.getElem?_eq_some_iff.1 h1).1, ?_⟩
    rw [h1]; simp [h2, h3]
  · rintro ⟨hi, hn⟩
    cases hq : s.fs[i]? with
    | none => rw [hq] at hn; cases hn
    | some f =>
      rw [hq] at hn
      have hn' : f.name ≠ noS := by simpa using hn
      exact (h.mem f.name i (name_size hw (List.mem_of_getElem? hq) hn') (find_self hw hq hn')).2 (hl _)
theorem nat_sort_perm {l l' : List Nat} (h : l.Perm l') : (l.mergeSort fun a b => decide (a ≤ b)) = l'.mergeSort fun a b => decide (a ≤ b) := by
  have tr : ∀ a b c : Nat, decide (a ≤ b) = true → decide (b ≤ c) = true → decide (a ≤ c) = true := fun a b c h1 h2 => by simp only [decide_eq_true_eq] at *; omega
  have to : ∀ a b : Nat, (decide (a ≤ b) || decide (b ≤ a)) = true := fun a b => by simp only [Bool.or_eq_true, decide_eq_true_eq]; omega
  refine List.Perm.eq_of_pairwise (le := fun a b => decide (a ≤ b) = true) (fun a b _ _ h1 h2 => ?_) (List.pairwise_mergeSort tr to l) (List.pairwise_mergeSort tr to l') (((List.mergeSort_perm l _).trans h).trans (List.mergeSort_perm l' _).symm)
  simp only [decide_eq_true_eq] at h1 h2; omega
theorem Went.orders {s : St} {left : Lit → Bool} {is : List Nat} (h : Went s.fs left is) (hw : Wf s) (hl : ∀ kl, left kl = false) : ((is.flatMap (riskedOf s.fs)).mergeSort fun a b => decide (a ≤ b)) = ordersOf s.fs :=
  nat_sort_perm ((h.perm hw hl).flatMap_right _)
theorem risked_len (fs : List Fs) (i : Nat) : (riskedOf fs i).length ≤ 64 := by
  unfold riskedOf; split
  · rw [List.length_map, List.length_take]; omega
  · simp
theorem flat_len (fs : List Fs) (is : List Nat) : (is.flatMap (riskedOf fs)).length ≤ 64 * is.length := by
  induction is with
  | nil => simp
  | cons a r ih =>
    rw [List.flatMap_cons, List.length_append, List.length_cons]
    have := risked_len fs a; omega
theorem orders_sorted (fs : List Fs) : (ordersOf fs).Pairwise (· ≤ ·) := by
  have tr : ∀ a b c : Nat, decide (a ≤ b) = true → decide (b ≤ c) = true → decide (a ≤ c) = true := fun a b c h1 h2 => by simp only [decide_eq_true_eq] at *; omega
  have to : ∀ a b : Nat, (decide (a ≤ b) || decide (b ≤ a)) = true := fun a b => by simp only [Bool.or_eq_true, decide_eq_true_eq]; omega
  exact (List.pairwise_mergeSort tr to _).imp (fun h => by simpa using h)
theorem int_sort (l : List Nat) : ((l.map fun (x : Nat) => (x : Int)).mergeSort fun a b => decide (a ≤ b)) = (l.mergeSort fun a b => decide (a ≤ b)).map fun (x : Nat) => (x : Int) := by
  refine (List.map_mergeSort (fun a _ b _ => ?_)).symm
  by_cases h : a ≤ b
  · simp [h]
  · simp [h]

theorem infoI : (Tryz.prog.info? 3).map (fun i => (i.zero, i.size, i.bytes)) = some (some (.int .i64 0), 1, 8) := by kernel_rfl
/-- The list of orders, one more. -/
theorem append_int (W : World) (v : Value) (l : List Nat) (hrow0 : Row W 3 1 v l.length (icells l)) (x : Nat) (ht : l.length ≤ 1099511627776) :
    ∃ v' w2, (Builtin.append_ #[107, 107] 107 #[v, .slice (some ⟨W.heap.size, 0, none⟩) 1 1]).run Tryz.prog (W.alloc (.cells #[.int .i64 x] 3)) = .ok v' w2 ∧
      Row w2 3 1 v' (l ++ [x]).length (icells (l ++ [x])) ∧ W.grownBy w2 (blk v) ∧ (blk v' = blk v ∨ ∀ k, blk v' = some k → W.heap.size ≤ k) := by
  obtain ⟨i, hi, hz0, hz1, hz2⟩ := info_parts infoI
  have hrow : Row (W.alloc (.cells #[.int .i64 x] 3)) 3 1 v l.length (icells l) := hrow0.kept fun k hk => Below.heap_alloc W _ k (hrow0.lt k hk)
  have hsrc : Src Tryz.prog 1 107 (.slice (some ⟨W.heap.size, 0, none⟩) 1 1) 1 [.int .i64 x] (W.alloc (.cells #[.int .i64 x] 3)) := by
    refine Src.ofSlice (P := Tryz.prog) _ Tryz.underlying107 _ 1 1 [.int .i64 x] rfl (fun j u hu => ?_) (by intro u hu; simp at hu; subst hu; rfl)
    rw [add_0, cell_blk (heap_alloc_new W _)]
    simpa using hu
  obtain ⟨v', w2, hr, h2, hg, hb⟩ := hrow.append (P := Tryz.prog) 107 107 107 i _ 8 Tryz.underlying107 hi hz0 hz1 hz2 (by rfl) _ 1 [.int .i64 x] hsrc (by omega) (by unfold maxLen; omega) (by omega)
  refine ⟨v', w2, hr, by simpa [icells] using h2, ⟨hg.os, hg.tape, hg.output, Nat.le_trans (by simp) hg.size, fun k hk hne => (hg.block k (by simp; omega) hne).trans (Below.heap_alloc W _ k hk)⟩, ?_⟩
  rcases hb with e | e
  · exact .inl e
  · exact .inr fun k hk => by rw [hk] at e; simp at e; omega
end Go.Proofs.YtpkhghjmelgpeaaGreat.Wk
