/- No class is a leaf of a census without leaves; a new census. -/
import Derived.Test.YtklbgccfcfldaaaE3
set_option linter.unusedVariables false
namespace Go.Proofs.Ytklbgccfcfldaaa.Wk
open Go.ChangeShapes Go.WideShapes Go.ChangeAt Go.RowKit M

theorem lawI : Maps.Keyed Try.prog 3 := Maps.int_keyed Try.underlying3
theorem zeroE (w : World) : (zeroValue 151).run Try.prog w = .ok (.agg #[]) w := by kernel_rfl
theorem look_e {X : World} {lb : Nat} (h : X.heap[lb]? = some (.map #[] 0)) (c : Int) (hc : -9223372036854775808 ≤ c ∧ c ≤ 9223372036854775807) :
    (Instr.lookup 95 (.map (some lb)) (.int .i64 c) true).run Try.prog X = .ok (.tuple #[.agg #[], .bool false]) X := by
  have hw : (Lit.int .i64 c).wf = true := by
    show (decide (IntKind.i64.min ≤ c) && decide (c ≤ IntKind.i64.max)) = true
    rw [show IntKind.i64.min = -9223372036854775808 from by decide, show IntKind.i64.max = 9223372036854775807 from by decide]
    simp; omega
  obtain ⟨v, ps, hr, hv⟩ := (owns0 (P := Try.prog) (k := 3) (R := unitElem) h).look_ok lawI Try.underlying95 (zeroE X) (zd := .agg []) (zp := []) unitElem_mk (key := .int .i64 c) (Maps.keyOf_int_mk Try.underlying3 hw)
  obtain ⟨rfl, _⟩ := unitElem_inv hv
  exact hr

set_option maxHeartbeats 4000000 in
set_option maxRecDepth 100000 in
theorem isLeaf_any (B : Nat) (w : World) (p c : Nat) (l : List Int) (x : CG) (h : Cs B w p c l x) (cl f sp hs a le : Int) (m n : Bool) (hcl : 0 ≤ cl ∧ cl ≤ 9223372036854775807) :
    Calls Try.prog 77 #[.pointer (some ⟨c, 0, none⟩), hdV cl f sp hs a le m n] w fun e w' => e = .returned (.bool false) ∧ Below w.heap.size w w' := by
  obtain ⟨X, hX⟩ : ∃ X, X = w.alloc (.cells #[.int .i64 cl, .int .u8 f, .int .i64 sp, .int .i64 hs, .int .i64 a, .int .i64 le, .bool m, .bool n] 78) := ⟨_, rfl⟩
  have hB : Below w.heap.size w X := by rw [hX]; exact (Below.refl _ _).alloc (Nat.le_refl _) _
  have hc := h.kept hB (Nat.le_refl _)
  have hXb : X.heap[w.heap.size]? = some (.cells #[.int .i64 cl, .int .u8 f, .int .i64 sp, .int .i64 hs, .int .i64 a, .int .i64 le, .bool m, .bool n] 78 (0, 0)) := by rw [hX]; exact heap_alloc_new w _
  have hk : ∀ Y, Below X.heap.size X Y → Y.cell? ⟨c, 3, none⟩ = some (.map (some x.lb)) ∧ Y.cell? ⟨w.heap.size, 0, none⟩ = some (.int .i64 cl) ∧ (Instr.lookup 95 (.map (some x.lb)) (.int .i64 cl) true).run Try.prog Y = .ok (.tuple #[.agg #[], .bool false]) Y ∧ c < Y.heap.size := fun Y hY => by
    have hcY := hc.kept hY (Nat.le_refl _)
    exact ⟨cell_blk hcY.cell 3, cell_blk ((hY.block _ (blk_lt hXb)).trans hXb) 0, look_e hcY.leaf cl (by omega), blk_lt hcY.cell⟩
  have HK := Lib.hid hk
  have HB := Lib.hid hB
  obtain ⟨k1, k2, k3, k4⟩ := hk X (Below.refl _ _)
  clear hk h hc hXb hB
  generalize x.lb = lb at *
  go_enter Try.func77, Try.ntmps77
  go_wp2
  rw [← hX]
  have HX := Lib.hid hX
  clear hX
  go_region_held3 (fun Y => Y.cell? ⟨c, 3, none⟩ = some (.map (some lb)) ∧ Y.cell? ⟨w.heap.size, 0, none⟩ = some (.int .i64 cl) ∧ (Instr.lookup 95 (.map (some lb)) (.int .i64 cl) true).run Try.prog Y = .ok (.tuple #[.agg #[], .bool false]) Y ∧ c < Y.heap.size)
    (first
      | with_reducible exact HK.out _ ((Below.refl _ _).drew)
      | with_reducible exact HK.out _ (((Below.refl _ _).drew).alloc (Nat.le_refl _) _)
      | with_reducible exact HK.out _ (((Below.refl _ _).alloc (Nat.le_refl _) _).drew))
    (first | fail)
  all_goals go_wp2
  all_goals go_ret
  all_goals first
    | exact ⟨rfl, HB.out.trans (((Below.refl _ _).alloc HB.out.size _).drew)⟩
    | exact ⟨rfl, HB.out.trans (((Below.refl _ _).drew).alloc HB.out.size _)⟩

set_option maxHeartbeats 4000000 in
set_option maxRecDepth 100000 in
theorem newNumbers_any (p : Nat) (w : World) :
    Calls Try.prog 75 #[.pointer (some ⟨p, 0, none⟩)] w fun e w' => ∃ m, e = .returned (numV p m) ∧ w.heap.size ≤ m ∧ w'.heap[m]? = some (.map #[] 0) ∧ Below w.heap.size w w' := by
  have hmm := @run_makeMap Try.prog
  simp only [numV]
  go_enter Try.func75, Try.ntmps75
  go_wp2
  refine bodyPost_ret (v := .agg #[.pointer (some ⟨p, 0, none⟩), .map (some (w.heap.size + 1))]) (by simp [results, Try.results75, go_sem]) rfl ⟨w.heap.size + 1, rfl, Nat.le_succ _, ?_, by go_grown⟩
  have := heap_alloc_new (w.alloc (.cells #[.pointer (some ⟨p, 0, none⟩), .map (some (w.heap.size + 1))] 94)) (.map #[] 0)
  simpa using this

theorem new_cs {w w1 : World} {p m : Nat} (h1 : w.heap.size ≤ m) (h2 : w1.heap[m]? = some (.map #[] 0)) (h3 : Below w.heap.size w w1) :
    ∃ x, Cs w.heap.size ((w1.alloc (.map #[] 0)).alloc (.cells #[.pointer (some ⟨p, 0, none⟩), .map (some m), .slice none 0 0, .map (some w1.heap.size)] 97)) p (w1.heap.size + 1) [] x ∧
      Below w.heap.size w ((w1.alloc (.map #[] 0)).alloc (.cells #[.pointer (some ⟨p, 0, none⟩), .map (some m), .slice none 0 0, .map (some w1.heap.size)] 97)) := by
  have hs := h3.size
  have hm := blk_lt h2
  have b1 := h3.alloc hs (.map #[] 0)
  have b2 := b1.alloc b1.size (.cells #[.pointer (some ⟨p, 0, none⟩), .map (some m), .slice none 0 0, .map (some w1.heap.size)] 97)
  have hold : ∀ k, k < w1.heap.size → ((w1.alloc (.map #[] 0)).alloc (.cells #[.pointer (some ⟨p, 0, none⟩), .map (some m), .slice none 0 0, .map (some w1.heap.size)] 97)).heap[k]? = w1.heap[k]? := fun k hk => by
    rw [Below.heap_alloc _ _ _ (by simp; omega), Below.heap_alloc _ _ _ hk]
  refine ⟨⟨m, 0, .map [], .slice none 0 0, w1.heap.size⟩, ⟨by omega, ?_, h1, Nu.nil ?_, Row.nil _ _ _, fun k e => by simp [blk] at e, hs, ?_, by show w1.heap.size ≠ m; omega⟩, b2⟩
  · have := heap_alloc_new (w1.alloc (.map #[] 0)) (.cells #[.pointer (some ⟨p, 0, none⟩), .map (some m), .slice none 0 0, .map (some w1.heap.size)] 97)
    rw [World.size_alloc] at this
    exact this
  · exact (hold m hm).trans h2
  · show (_ : World).heap[w1.heap.size]? = _
    rw [Below.heap_alloc _ _ _ (by simp)]
    exact heap_alloc_new w1 _

set_option maxHeartbeats 4000000 in
set_option maxRecDepth 100000 in
theorem newCensus_any (p : Nat) (w : World) :
    Calls Try.prog 56 #[.pointer (some ⟨p, 0, none⟩), .slice none 0 0] w fun e w' => ∃ c x, e = .returned (.pointer (some ⟨c, 0, none⟩)) ∧ Cs w.heap.size w' p c [] x ∧ Below w.heap.size w w' := by
  have hmm := @run_makeMap Try.prog
  have HN := newNumbers_any p w
  simp only [numV] at *
  go_enter Try.func56, Try.ntmps56
  go_wp2_with (go_at_call 75; refine HN.mono ?_; rintro e w1 ⟨m, rfl, hm1, hm2, hm3⟩)
  have HF := Lib.hid (new_cs (w := w) (w1 := w1) (p := p) (m := m) hm1 hm2 hm3)
  clear hm1 hm2 hm3
  go_loop [15] (fun v => v = .int .i64 0) (fun v => 0)
  case atStart => rfl
  case round =>
    subst hrel
    go_wp2
    go_ret
    obtain ⟨x, h1, h2⟩ := HF.out
    first
      | exact ⟨_, rfl, ⟨x, h1⟩, h2⟩
      | exact ⟨_, x, rfl, h1, h2⟩
      | exact ⟨_, rfl, x, h1, h2⟩
end Go.Proofs.Ytklbgccfcfldaaa.Wk
