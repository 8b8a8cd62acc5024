/- What New has laid is an empty heap. -/
import Derived.Test.YtklbgccfcfldaaaD1
set_option linter.unusedVariables false
namespace Go.Proofs.Ytklbgccfcfldaaa.Wk
open Go.ChangeShapes Go.WideShapes Go.ChangeAt Go.RowKit M

theorem size_setc (w : World) (a : Addr) (v : Value) : (w.setCell a v).heap.size = w.heap.size := by
  show (w.heap.modify _ _).size = _; simp
theorem getD_rep (n i : Nat) : (List.replicate n (0 : Int)).getD i 0 = 0 := by
  rw [List.getD_eq_getElem?_getD, List.getElem?_replicate]; split <;> rfl
theorem newS_n (ed su bo pi : Nat) : (newS ed su bo pi).n = newN ed su bo pi := rfl
theorem newS_spec (ed su bo pi : Nat) : (newS ed su bo pi).spec = List.replicate 64 0 := rfl
theorem newS_cls (ed su bo pi : Nat) : (newS ed su bo pi).cls = List.replicate 4096 0 := rfl
theorem newS_given (ed su bo pi : Nat) : (newS ed su bo pi).given = 0 := rfl
theorem newS_ar (ed su bo pi i : Nat) : (newS ed su bo pi).ar i = if i = 1 then ⟨2, 2, 2 + ed⟩ else if i = 2 then ⟨2 + ed, 2 + ed, 2 + ed + su⟩ else if i = 3 then ⟨2 + ed + su, 2 + ed + su, 2 + ed + su + su⟩
    else if i = 4 then ⟨2 + ed + su + su, 2 + ed + su + su, 2 + ed + su + su + (bo + ed + 2 * su)⟩
    else if i = 5 then ⟨2 + ed + su + su + (bo + ed + 2 * su), newN ed su bo pi, newN ed su bo pi⟩ else ⟨2, 2, 2⟩ := rfl
theorem newS_arr (ed su bo pi : Nat) : (newS ed su bo pi).ar 1 = ⟨2, 2, 2 + ed⟩ ∧ (newS ed su bo pi).ar 2 = ⟨2 + ed, 2 + ed, 2 + ed + su⟩ ∧ (newS ed su bo pi).ar 3 = ⟨2 + ed + su, 2 + ed + su, 2 + ed + su + su⟩ ∧ (newS ed su bo pi).ar 4 = ⟨2 + ed + su + su, 2 + ed + su + su, 2 + ed + su + su + (bo + ed + 2 * su)⟩ ∧ (newS ed su bo pi).ar 5 = ⟨2 + ed + su + su + (bo + ed + 2 * su), newN ed su bo pi, newN ed su bo pi⟩ := ⟨rfl, rfl, rfl, rfl, rfl⟩
theorem owns0 {w : World} {P : Program} {k : TypeId} {R : Value → Option (DataW Unit × List MemPlace)} {b : Nat} (h : w.heap[b]? = some (.map #[] 0)) : w.ownsMap P k R b 0 (.map []) :=
  ⟨#[], 0, h, ⟨by simp, Go.MapKept.stamped_empty 0, by simp⟩, Nat.le_refl _, rfl⟩
theorem FwMap.nil : FwMap (.map []) (fun _ => none) := ⟨fun o _ => ⟨rfl, rfl⟩⟩
theorem new_cells (ed su bo pi : Nat) (fb : Nat → Nat) (wb sb gb : Nat) (i : Nat) (hi : i < 4192) :
    cellAt ⟨wb, sb, .slice (some ⟨gb, 0, none⟩) 1 1, .slice none 0 0, none, 0, .nil, .slice none 0 0, .slice none 0 0, fb, fun _ => 0, fun _ => .map []⟩ (newS ed su bo pi) i =
      if i = 1 then .slice (some ⟨sb, 0, none⟩) ((bg ed su bo pi 6 + 63) / 64) ((bg ed su bo pi 6 + 63) / 64) else if i = 0 then .slice (some ⟨wb, 0, none⟩) (bg ed su bo pi 6) (bg ed su bo pi 6)
      else if i = 26 then .slice (some ⟨gb, 0, none⟩) 1 1 else if i = 23 then .int .i64 (bg ed su bo pi 6) else nc ed su bo pi fb 6 i := by
  have h6 : bg ed su bo pi 6 = newN ed su bo pi := by simp [bg]
  by_cases e0 : i = 0
  · subst e0; simp [cellAt, newS_n, h6]
  · by_cases e1 : i = 1
    · subst e1; simp [cellAt, newS_n, h6]
    · by_cases e26 : i < 26
      · have n26 : ¬ i = 26 := by omega
        have hin : 2 ≤ i ∧ i < 26 ∧ (i - 2) / 4 < 6 := by omega
        unfold cellAt nc
        simp only [e0, e1, n26, if_false, if_pos hin, if_pos e26]
        unfold areaCell
        rcases (by omega : (i - 2) / 4 = 0 ∨ (i - 2) / 4 = 1 ∨ (i - 2) / 4 = 2 ∨ (i - 2) / 4 = 3 ∨ (i - 2) / 4 = 4 ∨ (i - 2) / 4 = 5) with q | q | q | q | q | q
        all_goals
          rw [q]
          rcases (by omega : (i - 2) % 4 = 0 ∨ (i - 2) % 4 = 1 ∨ (i - 2) % 4 = 2 ∨ (i - 2) % 4 = 3) with r | r | r | r
          all_goals
            rw [r]
            first
              | (have e23 : i = 23 := by omega
                 simp [e23, newS_ar, bg, newN]; done)
              | (have e23 : ¬ i = 23 := by omega
                 simp [e23, newS_ar, bg, newN]; done)
              | (have e23 : ¬ i = 23 := by omega
                 simp [e23, newS_ar, bg, newN]; omega)
      · have n23 : ¬ i = 23 := by omega
        have hnin : ¬ (2 ≤ i ∧ i < 26 ∧ (i - 2) / 4 < 6) := by omega
        rw [show nc ed su bo pi fb 6 i = zc i from by unfold nc; rw [if_neg hnin]]
        unfold cellAt zc
        simp only [e0, e1, e26, n23, if_false]
        by_cases f26 : i = 26
        · simp [f26]
        · simp only [f26, if_false]
          by_cases f27 : i = 27
          · simp [f27]
          · simp only [f27, if_false]
            by_cases f28 : i = 28
            · simp [f28]
            · simp only [f28, if_false]
              by_cases f93 : i < 93
              · simp only [f93, if_true]; rw [newS_spec, getD_rep]
              · simp only [f93, if_false]
                by_cases f4189 : i < 4189
                · simp only [f4189, if_true]; rw [newS_cls, getD_rep]
                · simp only [f4189, if_false]
                  by_cases g1 : i = 4189
                  · simp [g1]
                  · simp only [g1, if_false]
                    by_cases g2 : i = 4190
                    · simp [g2]
                    · simp only [g2, if_false]; rfl
theorem new_wf {ed su bo pi te : Nat} (h : Sz ed su bo pi te) : Wf (newS ed su bo pi) := by
  obtain ⟨⟨h1, h2⟩, ⟨h3, h4⟩, ⟨h5, h6⟩, h7, h8⟩ := h
  have hst : ∀ a, ¬ (newS ed su bo pi).st a = true := fun a ha => Bool.noConfusion (show false = true from ha)
  have hnn : newN ed su bo pi ≤ 4194304 := by unfold newN; omega
  refine ⟨hnn, fun i => ⟨(by show (0 : Int) ≤ 0; omega), (by show (0 : Int) ≤ _; omega)⟩, fun a ha => absurd ha (hst a), fun a ha => absurd ha (hst a), fun a b ha => absurd ha (hst a), rfl, ?_, ?_, fun a ha => absurd ha (hst a), (by rw [newS_spec, List.length_replicate]), (by rw [newS_cls, List.length_replicate]), Nat.zero_le _, Nat.zero_le _, ?_, fun v hv => (List.not_mem_nil hv).elim, Nat.zero_le _, Nat.zero_le _⟩
  · intro i q1 q2
    have ha := newS_arr ed su bo pi
    have hn := newS_n ed su bo pi
    rcases (by omega : i = 1 ∨ i = 2 ∨ i = 3 ∨ i = 4 ∨ i = 5) with rfl | rfl | rfl | rfl | rfl <;> simp only [ha.1, ha.2.1, ha.2.2.1, ha.2.2.2.1, ha.2.2.2.2, hn] <;> unfold newN <;> omega
  · intro i j q1 q2 q3 q4 hne
    have ha := newS_arr ed su bo pi
    rcases (by omega : i = 1 ∨ i = 2 ∨ i = 3 ∨ i = 4 ∨ i = 5) with rfl | rfl | rfl | rfl | rfl <;> rcases (by omega : j = 1 ∨ j = 2 ∨ j = 3 ∨ j = 4 ∨ j = 5) with rfl | rfl | rfl | rfl | rfl <;> first | exact absurd rfl hne | (simp only [ha.1, ha.2.1, ha.2.2.1, ha.2.2.2.1, ha.2.2.2.2]; (try unfold newN); omega)
  · intro v hv
    change v ∈ List.replicate 64 0 ++ List.replicate 4096 0 ++ [] ++ [] at hv
    simp only [List.append_nil, List.mem_append] at hv
    rcases hv with hv | hv
    · rw [List.eq_of_mem_replicate hv]; omega
    · rw [List.eq_of_mem_replicate hv]; omega
theorem bits_none (k : Nat) : bitsOf (fun _ => false) k = 0 := by
  refine Nat.eq_of_testBit_eq fun j => ?_
  unfold bitsOf; rw [bitsN_test]; simp

/-- The owner's book of a new heap. -/
def ownN (own : Own) (p wb sb gb : Nat) (fb : Nat → Nat) : Own := fun k =>
  if k = p then some ⟨p, .hp⟩ else if k = wb then some ⟨p, .wd⟩ else if k = sb then some ⟨p, .sb⟩ else if k = gb then some ⟨p, .gp⟩
  else match (List.range 6).find? (fun j => fb j == k) with
    | some j => some ⟨p, .fw j⟩
    | none => own k
theorem ownN_fb {own : Own} {p wb sb gb : Nat} {fb : Nat → Nat} {i : Nat} (hi : i ≤ 5) (h1 : fb i ≠ p) (h2 : fb i ≠ wb) (h3 : fb i ≠ sb) (h4 : fb i ≠ gb) (hinj : ∀ i j, i < 6 → j < 6 → fb i = fb j → i = j) : ownN own p wb sb gb fb (fb i) = some ⟨p, .fw i⟩ := by
  unfold ownN
  rw [if_neg h1, if_neg h2, if_neg h3, if_neg h4]
  have hs : ((List.range 6).find? (fun j => fb j == fb i)).isSome = true := by
    rw [List.find?_isSome]; exact ⟨i, by simp; omega, by simp⟩
  obtain ⟨j, hj⟩ := Option.isSome_iff_exists.1 hs
  rw [hj]
  have hm := List.mem_of_find?_eq_some hj
  have he := List.find?_some hj
  simp at hm he
  rw [hinj j i hm (by omega) he]
theorem ownN_old {own : Own} {p wb sb gb k : Nat} {fb : Nat → Nat} (h1 : k ≠ p) (h2 : k ≠ wb) (h3 : k ≠ sb) (h4 : k ≠ gb) (h5 : ∀ j, j < 6 → fb j ≠ k) : ownN own p wb sb gb fb k = own k := by
  unfold ownN
  rw [if_neg h1, if_neg h2, if_neg h3, if_neg h4]
  have : (List.range 6).find? (fun j => fb j == k) = none := by
    rw [List.find?_eq_none]; intro j hj; simp at hj; simp; exact h5 j hj
  rw [this]

section
variable {own : Own} {w wr X1 Y : World} {ed su bo pi te p b b5 : Nat} {fb : Nat → Nat} {C1 : Array Value}
theorem new_bel {b : Nat} {C : Array Value} {g : Value} {O A B : Obj} {s0 s1 : Value} (hN : Nw w ed su bo pi p fb 6 wr) (hX : X1 = wr.setCell ⟨p, 23, none⟩ (.int .i64 b)) (hY : Y = ((X1.setCell ⟨p, 26, none⟩ g).alloc O).drew) :
    w.heap.size ≤ p ∧ Below w.heap.size w ((((Y.setCell ⟨p, 0, none⟩ s0).setCell ⟨p, 1, none⟩ s1).alloc A).alloc B) := by
  have hge := hN.ge
  have h1 : Below w.heap.size w X1 := by rw [hX]; exact hN.bel.setCell hge _
  have h2 : Below w.heap.size w (X1.setCell ⟨p, 26, none⟩ g) := h1.setCell hge _
  have h3 : Below w.heap.size w Y := by rw [hY]; exact (h2.alloc h2.size _).drew
  have h4 := (h3.setCell (p := ⟨p, 0, none⟩) hge s0).setCell (p := ⟨p, 1, none⟩) hge s1
  refine ⟨hge, (h4.alloc h4.size _).alloc ?_ _⟩
  simp; exact Nat.le_succ_of_le (by have := h4.size; simpa using this)
theorem new_rep (hO : Owns own w ∧ Sz ed su bo pi te) (hN : Nw w ed su bo pi p fb 6 wr) (hb : bg ed su bo pi 6 = b) (hb5 : bg ed su bo pi 5 = b5) (hX : X1 = wr.setCell ⟨p, 23, none⟩ (.int .i64 b)) (hY : Y = ((X1.setCell ⟨p, 26, none⟩ (.slice (some ⟨X1.heap.size, 0, none⟩) 1 1)).alloc (.cells #[.int .i64 b5, .int .i64 b] 76)).drew) :
    Rep (ownN own p Y.heap.size (Y.heap.size + 1) X1.heap.size fb) ((((Y.setCell ⟨p, 0, none⟩ (.slice (some ⟨Y.heap.size, 0, none⟩) b b)).setCell ⟨p, 1, none⟩ (.slice (some ⟨Y.heap.size + 1, 0, none⟩) ((b + 63) / 64) ((b + 63) / 64))).alloc (.cells (Array.ofFn (n := b) fun _ => .int .u64 0) 32)).alloc (.cells (Array.ofFn (n := (b + 63) / 64) fun _ => .int .u64 0) 32)) p (newS ed su bo pi)
      ⟨Y.heap.size, Y.heap.size + 1, .slice (some ⟨X1.heap.size, 0, none⟩) 1 1, .slice none 0 0, none, 0, .nil, .slice none 0 0, .slice none 0 0, fb, fun _ => 0, fun _ => .map []⟩ ∧
    Fr p own w (ownN own p Y.heap.size (Y.heap.size + 1) X1.heap.size fb) ((((Y.setCell ⟨p, 0, none⟩ (.slice (some ⟨Y.heap.size, 0, none⟩) b b)).setCell ⟨p, 1, none⟩ (.slice (some ⟨Y.heap.size + 1, 0, none⟩) ((b + 63) / 64) ((b + 63) / 64))).alloc (.cells (Array.ofFn (n := b) fun _ => .int .u64 0) 32)).alloc (.cells (Array.ofFn (n := (b + 63) / 64) fun _ => .int .u64 0) 32)) noE := by
  obtain ⟨F, hF⟩ : ∃ F, F = ((((Y.setCell ⟨p, 0, none⟩ (.slice (some ⟨Y.heap.size, 0, none⟩) b b)).setCell ⟨p, 1, none⟩ (.slice (some ⟨Y.heap.size + 1, 0, none⟩) ((b + 63) / 64) ((b + 63) / 64))).alloc (.cells (Array.ofFn (n := b) fun _ => .int .u64 0) 32)).alloc (.cells (Array.ofFn (n := (b + 63) / 64) fun _ => .int .u64 0) 32)) := ⟨_, rfl⟩
  have hbel := (new_bel (C := #[]) (b := b) (s0 := .slice (some ⟨Y.heap.size, 0, none⟩) b b) (s1 := .slice (some ⟨Y.heap.size + 1, 0, none⟩) ((b + 63) / 64) ((b + 63) / 64)) (A := .cells (Array.ofFn (n := b) fun _ => .int .u64 0) 32) (B := .cells (Array.ofFn (n := (b + 63) / 64) fun _ => .int .u64 0) 32) hN hX hY).2
  rw [← hF] at hbel ⊢
  have hge := hN.ge
  have hp : p < wr.heap.size := blk_lt hN.cell
  have hx : X1.heap.size = wr.heap.size := by rw [hX]; exact size_setc _ _ _
  have hy : Y.heap.size = wr.heap.size + 1 := by
    rw [hY]; show ((X1.setCell ⟨p, 26, none⟩ _).alloc _).heap.size = _
    simp [hx]
  have hf : F.heap.size = wr.heap.size + 3 := by rw [hF]; simp [hy]
  have hfl : ∀ j, j < 6 → fb j < wr.heap.size ∧ p < fb j := fun j hj => ⟨blk_lt (hN.map j hj).1, (hN.map j hj).2⟩
  have hs1 : ((Y.setCell ⟨p, 0, none⟩ (.slice (some ⟨Y.heap.size, 0, none⟩) b b)).setCell ⟨p, 1, none⟩ (.slice (some ⟨Y.heap.size + 1, 0, none⟩) ((b + 63) / 64) ((b + 63) / 64))).heap.size = wr.heap.size + 1 := by rw [size_setc, size_setc, hy]
  have hs2 : (((Y.setCell ⟨p, 0, none⟩ (.slice (some ⟨Y.heap.size, 0, none⟩) b b)).setCell ⟨p, 1, none⟩ (.slice (some ⟨Y.heap.size + 1, 0, none⟩) ((b + 63) / 64) ((b + 63) / 64))).alloc (.cells (Array.ofFn (n := b) fun _ => .int .u64 0) 32)).heap.size = wr.heap.size + 2 := by
    simp only [World.size_alloc, hs1]
  have hs3 : (X1.setCell ⟨p, 26, none⟩ (.slice (some ⟨X1.heap.size, 0, none⟩) 1 1)).heap.size = wr.heap.size := by rw [size_setc, hx]
  have hoth : ∀ k, k ≠ p → k < wr.heap.size → F.heap[k]? = wr.heap[k]? := fun k h1 h2 => by
    rw [hF, Below.heap_alloc _ _ _ (by omega), Below.heap_alloc _ _ _ (by omega), blk_set_other _ _ _ _ _ h1, blk_set_other _ _ _ _ _ h1, hY]
    show ((X1.setCell ⟨p, 26, none⟩ _).alloc _).heap[k]? = _
    rw [Below.heap_alloc _ _ _ (by omega), blk_set_other _ _ _ _ _ h1, hX, blk_set_other _ _ _ _ _ h1]
  have hgap : F.heap[X1.heap.size]? = some (.cells #[.int .i64 b5, .int .i64 b] 76 (0, 0)) := by
    rw [hF, Below.heap_alloc _ _ _ (by omega), Below.heap_alloc _ _ _ (by omega), blk_set_other _ _ _ _ _ (by omega), blk_set_other _ _ _ _ _ (by omega), hY]
    show ((X1.setCell ⟨p, 26, none⟩ _).alloc _).heap[X1.heap.size]? = _
    have := heap_alloc_new (X1.setCell ⟨p, 26, none⟩ (.slice (some ⟨X1.heap.size, 0, none⟩) 1 1)) (.cells #[.int .i64 b5, .int .i64 b] 76)
    simpa using this
  have hwd : F.heap[Y.heap.size]? = some (.cells (Array.ofFn (n := b) fun _ => .int .u64 0) 32 (0, 0)) := by
    rw [hF, Below.heap_alloc _ _ _ (by simp)]
    have := heap_alloc_new ((Y.setCell ⟨p, 0, none⟩ (.slice (some ⟨Y.heap.size, 0, none⟩) b b)).setCell ⟨p, 1, none⟩ (.slice (some ⟨Y.heap.size + 1, 0, none⟩) ((b + 63) / 64) ((b + 63) / 64))) (.cells (Array.ofFn (n := b) fun _ => .int .u64 0) 32)
    simpa using this
  have hsb : F.heap[Y.heap.size + 1]? = some (.cells (Array.ofFn (n := (b + 63) / 64) fun _ => .int .u64 0) 32 (0, 0)) := by
    rw [hF]
    have := heap_alloc_new (((Y.setCell ⟨p, 0, none⟩ (.slice (some ⟨Y.heap.size, 0, none⟩) b b)).setCell ⟨p, 1, none⟩ (.slice (some ⟨Y.heap.size + 1, 0, none⟩) ((b + 63) / 64) ((b + 63) / 64))).alloc (.cells (Array.ofFn (n := b) fun _ => .int .u64 0) 32)) (.cells (Array.ofFn (n := (b + 63) / 64) fun _ => .int .u64 0) 32)
    simpa using this
  have hpc : F.heap[p]? = some (.cells (((((Array.ofFn (n := 4192) fun i => nc ed su bo pi fb 6 i).setIfInBounds 23 (.int .i64 b)).setIfInBounds 26 (.slice (some ⟨X1.heap.size, 0, none⟩) 1 1)).setIfInBounds 0 (.slice (some ⟨Y.heap.size, 0, none⟩) b b)).setIfInBounds 1 (.slice (some ⟨Y.heap.size + 1, 0, none⟩) ((b + 63) / 64) ((b + 63) / 64))) 71 (0, 0)) := by
    have c1 := blk_set hN.cell 23 (.int .i64 b)
    rw [← hX] at c1
    have c2 := blk_set c1 26 (.slice (some ⟨X1.heap.size, 0, none⟩) 1 1)
    have c3 : Y.heap[p]? = some (.cells (((Array.ofFn (n := 4192) fun i => nc ed su bo pi fb 6 i).setIfInBounds 23 (.int .i64 b)).setIfInBounds 26 (.slice (some ⟨X1.heap.size, 0, none⟩) 1 1)) 71 (0, 0)) := by
      rw [hY]
      show ((X1.setCell ⟨p, 26, none⟩ (.slice (some ⟨X1.heap.size, 0, none⟩) 1 1)).alloc (.cells #[.int .i64 b5, .int .i64 b] 76)).heap[p]? = _
      rw [Below.heap_alloc _ _ _ (by omega)]
      exact c2
    rw [hF, Below.heap_alloc _ _ _ (by omega), Below.heap_alloc _ _ _ (by omega)]
    exact blk_set (blk_set c3 0 _) 1 _
  have hbn : b = newN ed su bo pi := by rw [← hb]; simp [bg]
  rw [ofFn_set (n := 4192) (nc ed su bo pi fb 6) (fun i => if i = 23 then .int .i64 b else nc ed su bo pi fb 6 i) 23 _ (fun _ _ => rfl),
      ofFn_set (n := 4192) (fun i => if i = 23 then .int .i64 b else nc ed su bo pi fb 6 i) (fun i => if i = 26 then .slice (some ⟨X1.heap.size, 0, none⟩) 1 1 else if i = 23 then .int .i64 b else nc ed su bo pi fb 6 i) 26 _ (fun _ _ => rfl),
      ofFn_set (n := 4192) (fun i => if i = 26 then .slice (some ⟨X1.heap.size, 0, none⟩) 1 1 else if i = 23 then .int .i64 b else nc ed su bo pi fb 6 i) (fun i => if i = 0 then .slice (some ⟨Y.heap.size, 0, none⟩) b b else if i = 26 then .slice (some ⟨X1.heap.size, 0, none⟩) 1 1 else if i = 23 then .int .i64 b else nc ed su bo pi fb 6 i) 0 _ (fun _ _ => rfl),
      ofFn_set (n := 4192) (fun i => if i = 0 then .slice (some ⟨Y.heap.size, 0, none⟩) b b else if i = 26 then .slice (some ⟨X1.heap.size, 0, none⟩) 1 1 else if i = 23 then .int .i64 b else nc ed su bo pi fb 6 i) (fun i => cellAt ⟨Y.heap.size, Y.heap.size + 1, .slice (some ⟨X1.heap.size, 0, none⟩) 1 1, .slice none 0 0, none, 0, .nil, .slice none 0 0, .slice none 0 0, fb, fun _ => 0, fun _ => .map []⟩ (newS ed su bo pi) i) 1 _ (fun j hj => by rw [new_cells ed su bo pi fb _ _ _ j hj, hb])] at hpc
  have n1 : wr.heap.size ≠ p := by omega
  have n2 : wr.heap.size + 1 ≠ p := by omega
  have n3 : wr.heap.size + 2 ≠ p := by omega
  have hfn : ∀ j, j < 6 → fb j ≠ p ∧ fb j ≠ Y.heap.size ∧ fb j ≠ Y.heap.size + 1 ∧ fb j ≠ X1.heap.size := fun j hj => by have := hfl j hj; omega
  have hww : w.heap.size ≤ wr.heap.size := hN.bel.size
  have o1 : ownN own p Y.heap.size (Y.heap.size + 1) X1.heap.size fb p = some ⟨p, .hp⟩ := by unfold ownN; rw [if_pos rfl]
  have o2 : ownN own p Y.heap.size (Y.heap.size + 1) X1.heap.size fb Y.heap.size = some ⟨p, .wd⟩ := by unfold ownN; rw [if_neg (by omega), if_pos rfl]
  have o3 : ownN own p Y.heap.size (Y.heap.size + 1) X1.heap.size fb (Y.heap.size + 1) = some ⟨p, .sb⟩ := by unfold ownN; rw [if_neg (by omega), if_neg (by omega), if_pos rfl]
  have o4 : ownN own p Y.heap.size (Y.heap.size + 1) X1.heap.size fb X1.heap.size = some ⟨p, .gp⟩ := by unfold ownN; rw [if_neg (by omega), if_neg (by omega), if_neg (by omega), if_pos rfl]
  have oo : ∀ k, k < w.heap.size → ownN own p Y.heap.size (Y.heap.size + 1) X1.heap.size fb k = own k := fun k hk => ownN_old (by omega) (by omega) (by omega) (by omega) (fun j hj e => by have := hfl j hj; omega)
  have on : ∀ k l, ownN own p Y.heap.size (Y.heap.size + 1) X1.heap.size fb k = some l → (l.p = p ∧ k < F.heap.size) ∨ own k = some l := fun k l e => by
    unfold ownN at e
    split at e
    · cases e; exact .inl ⟨rfl, by omega⟩
    · split at e
      · cases e; exact .inl ⟨rfl, by omega⟩
      · split at e
        · cases e; exact .inl ⟨rfl, by omega⟩
        · split at e
          · cases e; exact .inl ⟨rfl, by omega⟩
          · split at e
            · rename_i j hj
              cases e
              have hm := List.mem_of_find?_eq_some hj
              have he := List.find?_some hj
              simp at hm he
              have := hfl j hm
              exact .inl ⟨rfl, by omega⟩
            · exact .inr e
  have hwf := new_wf hO.2
  refine ⟨?_, ⟨hbel.os, hbel.tape, hbel.output, hbel.size, oo, fun k l hk e => (on k l e).imp (fun x => x.1) id, fun k hk _ _ => hbel.block k hk⟩⟩
  exact {
    owns := fun k hk => by
      cases e : ownN own p Y.heap.size (Y.heap.size + 1) X1.heap.size fb k with
      | none => exact absurd e hk
      | some l =>
        rcases on k l e with h | h
        · exact h.2
        · have := hO.1 k (by rw [h]; simp); omega
    hown := o1
    hcell := hpc
    wown := o2
    wcell := by rw [hwd, hbn]; rfl
    sown := o3
    scell := by
      rw [hsb, hbn]
      show _ = some (Obj.cells (scells _) _ _)
      unfold scells
      rw [newS_n]
      congr 2
    grow := by
      have hg : gcells (newS ed su bo pi).gaps = [.int .i64 b5, .int .i64 b] := by
        have h5 : b5 = 2 + ed + su + su + (bo + ed + 2 * su) := by rw [← hb5]; simp [bg]
        rw [hbn, h5]; rfl
      rw [hg]
      exact ⟨rfl, .inr ⟨X1.heap.size, 1, #[.int .i64 b5, .int .i64 b], rfl, by omega, ⟨(0, 0), hgap, .inl (Nat.le_refl _)⟩, Nat.le_refl _, by decide, rfl, rfl⟩⟩
    gown := fun k e => by simp [blk] at e; rw [← e]; exact o4
    nrow := Row.nil _ _ _
    nown := fun k e => by simp [blk] at e
    nnil := fun _ => rfl
    nmap := fun b e => by cases e
    krow := Row.nil _ _ _
    kown := fun k e => by simp [blk] at e
    qrow := Row.nil _ _ _
    qown := fun k e => by simp [blk] at e
    fmap := fun i h1 h2 => by
      have h6 : i < 6 := by omega
      have hf6 := hfn i h6
      refine ⟨ownN_fb h2 hf6.1 hf6.2.1 hf6.2.2.1 hf6.2.2.2 hN.inj, owns0 ?_, FwMap.nil⟩
      exact (hoth _ hf6.1 (hfl i h6).1).trans (hN.map i h6).1
    w0 := hwf.w0 }
end
end Go.Proofs.Ytklbgccfcfldaaa.Wk
