/- What slices.Clone makes: a row of its own with the same cells. -/
import Derived.Test.YtpkhghjmelgpeaaGreatW3
set_option linter.unusedVariables false
namespace Go.Proofs.YtpkhghjmelgpeaaGreat.Wk
open Go.ChangeShapes Go.WideShapes Go.ChangeAt Go.RowKit M

theorem eql_nil (t e : TypeId) (h : Tryz.prog.underlying t = some (.slice e)) (a : Option Addr) (n c : Nat) (w : World) : (binOp .eql t (.slice a n c) (.slice none 0 0)).run Tryz.prog w = .ok (.bool a.isNone) w := by
  simp [binOp, run_equal_slice_nil w t e a n c h]
/-- v reads as n elements of z cells, which are xs. -/
def Rd (w : World) (z : Nat) (v : Value) (n : Nat) (xs : List Value) : Prop :=
  ∃ a c, v = .slice a n c ∧ xs.length = n * z ∧ ∀ j u, xs[j]? = some u → ∃ ad, a = some ad ∧ w.cell? (ad.add j) = some u
theorem add_0 (g j : Nat) : (⟨g, 0, none⟩ : Addr).add j = ⟨g, j, none⟩ := by unfold Addr.add; split <;> simp_all
theorem Row.rd {w : World} {e : TypeId} {z : Nat} {v : Value} {n : Nat} {xs : List Value} (h : Row w e z v n xs) : Rd w z v n xs := by
  obtain ⟨a, c, hv, _, hq⟩ := h.cells
  refine ⟨a, c, hv, h.1, fun j u hu => ?_⟩
  obtain ⟨g, rfl, hc⟩ := hq j u hu
  exact ⟨_, rfl, by rw [add_0]; exact hc⟩
theorem append_nothing {P : Program} (w : World) (t tx ty e : TypeId) (i : TypeInfo) (ht : P.underlying t = some (.slice e)) (hi : P.info? e = some i) (b : Option Addr) (n c : Nat) (hc : n ≤ c) (x : Value) (hs : Src P i.size tx x 0 [] w) :
    (Builtin.append_ #[t, tx] ty #[.slice b n c, x]).run P w = .ok (.slice b n c) w := by
  rcases hs.kind with ⟨e', hk⟩ | hk <;> cases b <;> simp [Builtin.append_, run_underlying ht, run_underlying hk, sizeOf, typeInfo, hi, hs.len, hc, hs.cells, storeCells, Result.andThen]
def Cloned (E z : Nat) (w : World) (n : Nat) (xs : List Value) (e : Ending) (w' : World) : Prop :=
  ∃ v', e = .returned v' ∧ Row w' E z v' n xs ∧ Below w.heap.size w w' ∧ ∀ k, blk v' = some k → w.heap.size ≤ k

theorem cinfoB : (Tryz.prog.info? 5).map (fun i => (i.zero, i.size, i.bytes)) = some (some (.int .u8 0), 1, 1) := by kernel_rfl
set_option maxHeartbeats 2000000 in
set_option maxRecDepth 100000 in
theorem cloneB_any (v : Value) (n : Nat) (xs : List Value) (w : World) (h : Rd w 1 v n xs) (h1 : ∀ u ∈ xs, u.oneCell' = true) (hn : n * 1 ≤ 140737488355328) :
    Calls Tryz.prog 100 #[v] w (Cloned 5 1 w n xs) := by
  obtain ⟨a, c, rfl, hl, hq⟩ := h
  cases a with
  | none =>
    have h0 : xs = [] := by
      cases xs with
      | nil => rfl
      | cons y r => obtain ⟨_, ha, _⟩ := hq 0 y rfl; cases ha
    subst h0
    obtain rfl : n = 0 := by simp at hl; omega
    have heq := eql_nil 92 _ Tryz.underlying92 none 0 c
    simp only [Option.isNone_none] at heq
    go_enter Tryz.func100, Tryz.ntmps100
    go_wp2
    go_ret
    exact ⟨_, rfl, Row.nil _ _ _, Below.refl _ _, by simp [blk]⟩
  | some ad =>
    have hcell : ∀ j u, xs[j]? = some u → (w.alloc (.cells #[] 5)).cell? (ad.add j) = some u := fun j u hu => by
      obtain ⟨ad', e1, hc⟩ := hq j u hu
      cases e1
      rw [World.cell?_of_block (w := w) (Below.heap_alloc w _ _ (World.block_lt_of_cell? w _ hc))]
      exact hc
    obtain ⟨i, hi, hz0, hz1, hz2⟩ := info_parts cinfoB
    have hsrc : Src Tryz.prog i.size 92 (.slice (some ad) n c) n xs (w.alloc (.cells #[] 5)) := Src.ofSlice (P := Tryz.prog) _ Tryz.underlying92 ad n c xs (by rw [hz1]; exact hl) hcell h1
    have hrow0 : Row (w.alloc (.cells #[] 5)) 5 1 (.slice (some ⟨w.heap.size, 0, none⟩) 0 0) 0 [] := ⟨by simp, .inl ⟨rfl, _, rfl⟩⟩
    by_cases h0 : n = 0
    · subst h0
      obtain rfl : xs = [] := List.eq_nil_of_length_eq_zero (by omega)
      have hr := append_nothing (P := Tryz.prog) (w.alloc (.cells #[] 5)) 92 92 92 5 i Tryz.underlying92 hi (some ⟨w.heap.size, 0, none⟩) 0 0 (Nat.le_refl _) _ hsrc
      have HR := hr
      clear hsrc hq hcell
      have heq := eql_nil 92 _ Tryz.underlying92 (some ad) 0 c
      simp only [Option.isNone_some] at heq
      go_enter Tryz.func100, Tryz.ntmps100
      go_wp2_with (at_builtin; refine Lib.wpList_append_run _ rfl _ _ _ _ rfl _ _ rfl rfl _ _ HR ?_)
      go_ret
      exact ⟨_, rfl, hrow0, (Below.refl _ _).alloc (Nat.le_refl _) _, by simp [blk]⟩
    · obtain ⟨v', w', hr, h2, hg, hb⟩ := hrow0.append (P := Tryz.prog) 92 92 92 i _ 1 Tryz.underlying92 hi hz0 hz1 hz2 (by rfl) _ n xs (by rw [hz1] at hsrc; exact hsrc) (by omega) (by unfold maxLen; omega) (by omega)
      rw [Nat.zero_add, List.nil_append] at h2
      have hlt : w.heap.size < w'.heap.size := by have := hg.size; simp at this; omega
      have hbel : Below w.heap.size w w' := ((Below.refl _ _).alloc (Nat.le_refl _) _).grown hg (by simp) (by simp [blk])
      have hbk : ∀ k, blk v' = some k → w.heap.size ≤ k := fun k hk => by
        rcases hb with e | e
        · rw [hk] at e; simp [blk] at e
        · rw [hk] at e; simp at e; omega
      have HR := Lib.hid hr
      have H2 := Lib.hid h2
      have HB := Lib.hid hbk
      have HL := Lib.hid hbel
      clear hsrc hq hcell hr h2 hb hbk hbel hg hlt h1 hi hz0 hz1 hz2 hrow0
      have HR' := HR.out
      have heq := eql_nil 92 _ Tryz.underlying92 (some ad) n c
      simp only [Option.isNone_some] at heq
      go_enter Tryz.func100, Tryz.ntmps100
      go_wp2_with (at_builtin; refine Lib.wpList_append_run _ rfl _ _ _ _ rfl _ _ rfl rfl _ _ HR' ?_)
      go_ret
      exact ⟨_, rfl, H2.out, HL.out, HB.out⟩

theorem cinfoCh : (Tryz.prog.info? 63).map (fun i => (i.zero, i.size, i.bytes)) = some (some (.agg #[.int .u8 0, .int .i64 0, .string ⟨#[]⟩]), 3, 32) := by kernel_rfl
set_option maxHeartbeats 2000000 in
set_option maxRecDepth 100000 in
theorem cloneCh_any (v : Value) (n : Nat) (xs : List Value) (w : World) (h : Rd w 3 v n xs) (h1 : ∀ u ∈ xs, u.oneCell' = true) (hn : n * 32 ≤ 140737488355328) :
    Calls Tryz.prog 98 #[v] w (Cloned 63 3 w n xs) := by
  obtain ⟨a, c, rfl, hl, hq⟩ := h
  cases a with
  | none =>
    have h0 : xs = [] := by
      cases xs with
      | nil => rfl
      | cons y r => obtain ⟨_, ha, _⟩ := hq 0 y rfl; cases ha
    subst h0
    obtain rfl : n = 0 := by simp at hl; omega
    have heq := eql_nil 22 _ Tryz.underlying22 none 0 c
    simp only [Option.isNone_none] at heq
    go_enter Tryz.func98, Tryz.ntmps98
    go_wp2
    go_ret
    exact ⟨_, rfl, Row.nil _ _ _, Below.refl _ _, by simp [blk]⟩
  | some ad =>
    have hcell : ∀ j u, xs[j]? = some u → (w.alloc (.cells #[] 63)).cell? (ad.add j) = some u := fun j u hu => by
      obtain ⟨ad', e1, hc⟩ := hq j u hu
      cases e1
      rw [World.cell?_of_block (w := w) (Below.heap_alloc w _ _ (World.block_lt_of_cell? w _ hc))]
      exact hc
    obtain ⟨i, hi, hz0, hz1, hz2⟩ := info_parts cinfoCh
    have hsrc : Src Tryz.prog i.size 22 (.slice (some ad) n c) n xs (w.alloc (.cells #[] 63)) := Src.ofSlice (P := Tryz.prog) _ Tryz.underlying22 ad n c xs (by rw [hz1]; exact hl) hcell h1
    have hrow0 : Row (w.alloc (.cells #[] 63)) 63 3 (.slice (some ⟨w.heap.size, 0, none⟩) 0 0) 0 [] := ⟨by simp, .inl ⟨rfl, _, rfl⟩⟩
    by_cases h0 : n = 0
    · subst h0
      obtain rfl : xs = [] := List.eq_nil_of_length_eq_zero (by omega)
      have hr := append_nothing (P := Tryz.prog) (w.alloc (.cells #[] 63)) 22 22 22 63 i Tryz.underlying22 hi (some ⟨w.heap.size, 0, none⟩) 0 0 (Nat.le_refl _) _ hsrc
      have HR := hr
      clear hsrc hq hcell
      have heq := eql_nil 22 _ Tryz.underlying22 (some ad) 0 c
      simp only [Option.isNone_some] at heq
      go_enter Tryz.func98, Tryz.ntmps98
      go_wp2_with (at_builtin; refine Lib.wpList_append_run _ rfl _ _ _ _ rfl _ _ rfl rfl _ _ HR ?_)
      go_ret
      exact ⟨_, rfl, hrow0, (Below.refl _ _).alloc (Nat.le_refl _) _, by simp [blk]⟩
    · obtain ⟨v', w', hr, h2, hg, hb⟩ := hrow0.append (P := Tryz.prog) 22 22 22 i _ 32 Tryz.underlying22 hi hz0 hz1 hz2 (by rfl) _ n xs (by rw [hz1] at hsrc; exact hsrc) (by omega) (by unfold maxLen; omega) (by omega)
      rw [Nat.zero_add, List.nil_append] at h2
      have hlt : w.heap.size < w'.heap.size := by have := hg.size; simp at this; omega
      have hbel : Below w.heap.size w w' := ((Below.refl _ _).alloc (Nat.le_refl _) _).grown hg (by simp) (by simp [blk])
      have hbk : ∀ k, blk v' = some k → w.heap.size ≤ k := fun k hk => by
        rcases hb with e | e
        · rw [hk] at e; simp [blk] at e
        · rw [hk] at e; simp at e; omega
      have HR := Lib.hid hr
      have H2 := Lib.hid h2
      have HB := Lib.hid hbk
      have HL := Lib.hid hbel
      clear hsrc hq hcell hr h2 hb hbk hbel hg hlt h1 hi hz0 hz1 hz2 hrow0
      have HR' := HR.out
      have heq := eql_nil 22 _ Tryz.underlying22 (some ad) n c
      simp only [Option.isNone_some] at heq
      go_enter Tryz.func98, Tryz.ntmps98
      go_wp2_with (at_builtin; refine Lib.wpList_append_run _ rfl _ _ _ _ rfl _ _ rfl rfl _ _ HR' ?_)
      go_ret
      exact ⟨_, rfl, H2.out, HL.out, HB.out⟩

theorem cinfoDd : (Tryz.prog.info? 82).map (fun i => (i.zero, i.size, i.bytes)) = some (some (.agg #[.int .u8 0, .int .i64 0, .string ⟨#[]⟩, .string ⟨#[]⟩, .int .i64 0, .int .i64 0]), 6, 64) := by kernel_rfl
set_option maxHeartbeats 2000000 in
set_option maxRecDepth 100000 in
theorem cloneDd_any (v : Value) (n : Nat) (xs : List Value) (w : World) (h : Rd w 6 v n xs) (h1 : ∀ u ∈ xs, u.oneCell' = true) (hn : n * 64 ≤ 140737488355328) :
    Calls Tryz.prog 75 #[v] w (Cloned 82 6 w n xs) := by
  obtain ⟨a, c, rfl, hl, hq⟩ := h
  cases a with
  | none =>
    have h0 : xs = [] := by
      cases xs with
      | nil => rfl
      | cons y r => obtain ⟨_, ha, _⟩ := hq 0 y rfl; cases ha
    subst h0
    obtain rfl : n = 0 := by simp at hl; omega
    have heq := eql_nil 58 _ Tryz.underlying58 none 0 c
    simp only [Option.isNone_none] at heq
    go_enter Tryz.func75, Tryz.ntmps75
    go_wp2
    go_ret
    exact ⟨_, rfl, Row.nil _ _ _, Below.refl _ _, by simp [blk]⟩
  | some ad =>
    have hcell : ∀ j u, xs[j]? = some u → (w.alloc (.cells #[] 82)).cell? (ad.add j) = some u := fun j u hu => by
      obtain ⟨ad', e1, hc⟩ := hq j u hu
      cases e1
      rw [World.cell?_of_block (w := w) (Below.heap_alloc w _ _ (World.block_lt_of_cell? w _ hc))]
      exact hc
    obtain ⟨i, hi, hz0, hz1, hz2⟩ := info_parts cinfoDd
    have hsrc : Src Tryz.prog i.size 58 (.slice (some ad) n c) n xs (w.alloc (.cells #[] 82)) := Src.ofSlice (P := Tryz.prog) _ Tryz.underlying58 ad n c xs (by rw [hz1]; exact hl) hcell h1
    have hrow0 : Row (w.alloc (.cells #[] 82)) 82 6 (.slice (some ⟨w.heap.size, 0, none⟩) 0 0) 0 [] := ⟨by simp, .inl ⟨rfl, _, rfl⟩⟩
    by_cases h0 : n = 0
    · subst h0
      obtain rfl : xs = [] := List.eq_nil_of_length_eq_zero (by omega)
      have hr := append_nothing (P := Tryz.prog) (w.alloc (.cells #[] 82)) 58 58 58 82 i Tryz.underlying58 hi (some ⟨w.heap.size, 0, none⟩) 0 0 (Nat.le_refl _) _ hsrc
      have HR := hr
      clear hsrc hq hcell
      have heq := eql_nil 58 _ Tryz.underlying58 (some ad) 0 c
      simp only [Option.isNone_some] at heq
      go_enter Tryz.func75, Tryz.ntmps75
      go_wp2_with (at_builtin; refine Lib.wpList_append_run _ rfl _ _ _ _ rfl _ _ rfl rfl _ _ HR ?_)
      go_ret
      exact ⟨_, rfl, hrow0, (Below.refl _ _).alloc (Nat.le_refl _) _, by simp [blk]⟩
    · obtain ⟨v', w', hr, h2, hg, hb⟩ := hrow0.append (P := Tryz.prog) 58 58 58 i _ 64 Tryz.underlying58 hi hz0 hz1 hz2 (by rfl) _ n xs (by rw [hz1] at hsrc; exact hsrc) (by omega) (by unfold maxLen; omega) (by omega)
      rw [Nat.zero_add, List.nil_append] at h2
      have hlt : w.heap.size < w'.heap.size := by have := hg.size; simp at this; omega
      have hbel : Below w.heap.size w w' := ((Below.refl _ _).alloc (Nat.le_refl _) _).grown hg (by simp) (by simp [blk])
      have hbk : ∀ k, blk v' = some k → w.heap.size ≤ k := fun k hk => by
        rcases hb with e | e
        · rw [hk] at e; simp [blk] at e
        · rw [hk] at e; simp at e; omega
      have HR := Lib.hid hr
      have H2 := Lib.hid h2
      have HB := Lib.hid hbk
      have HL := Lib.hid hbel
      clear hsrc hq hcell hr h2 hb hbk hbel hg hlt h1 hi hz0 hz1 hz2 hrow0
      have HR' := HR.out
      have heq := eql_nil 58 _ Tryz.underlying58 (some ad) n c
      simp only [Option.isNone_some] at heq
      go_enter Tryz.func75, Tryz.ntmps75
      go_wp2_with (at_builtin; refine Lib.wpList_append_run _ rfl _ _ _ _ rfl _ _ rfl rfl _ _ HR' ?_)
      go_ret
      exact ⟨_, rfl, H2.out, HL.out, HB.out⟩
end Go.Proofs.YtpkhghjmelgpeaaGreat.Wk
