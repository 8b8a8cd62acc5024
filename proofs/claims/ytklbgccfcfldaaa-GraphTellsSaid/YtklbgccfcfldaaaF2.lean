/- reached: the census of what the roots refer to. -/
import Derived.Test.YtklbgccfcfldaaaF1
set_option linter.unusedVariables false
namespace Go.Proofs.Ytklbgccfcfldaaa.Wk
open Go.ChangeShapes Go.WideShapes Go.ChangeAt Go.RowKit Go.Shelf M
attribute [local go_sem] Oper.semAt_some

theorem rootsF_any (w : World) (p : Nat) :
    Calls Try.prog 32 #[.pointer (some ⟨p, 0, none⟩)] w fun e w' => e = .returned (.func (.func 59) #[] #[.pointer (some ⟨w.heap.size, 0, none⟩)]) ∧ w' = w.alloc (.cells #[.pointer (some ⟨p, 0, none⟩)] 25) := by
  go_enter Try.func32, Try.ntmps32
  go_wp2
  go_ret
  exact ⟨rfl, rfl⟩
theorem vd_nil (s : Hp) : Vd s [] := ⟨List.nodup_nil, fun o ho => (List.not_mem_nil ho).elim⟩

set_option maxRecDepth 100000 in
set_option maxHeartbeats 4000000 in
theorem reached_any (own : Own) (w : World) (p : Nat) (s : Hp) (g : Gh) (h : Rep own w p s g) (hw : Wf s) :
    Calls Try.prog 29 #[.pointer (some ⟨p, 0, none⟩)] w fun e w' => ∃ c x, e = .returned (.pointer (some ⟨c, 0, none⟩)) ∧ Cs w.heap.size w' p c (reachL s) x ∧ Below w.heap.size w w' := by
  refine (callsIn_wide (n := 9)).1 ?_
  refine callsIn_of_wp_marks Try.func29 rfl trivial ?_ rfl
  simp only [Try.ntmps29, List.size_toArray, List.length_cons, List.length_nil, Nat.reduceAdd, Nat.reduceSub, Array.replicate_succ, Array.replicate_zero, List.push_toArray, List.append_toArray, List.nil_append, List.cons_append]
  have hB : ∀ k, own k ≠ none → k < w.heap.size := h.owns
  have HH := Lib.hid h
  have HN := newCensus_any p w
  clear h
  gi_wp2_with (first
    | (refine ⟨trivial, ?_⟩; gi_at_call 56; refine (callsIn_wide.2 HN).mono ?_; rintro e w1 ⟨c, x, rfl, hc1, hb1⟩; obtain ⟨X1, hX1⟩ : ∃ X1, X1 = w1.alloc (.cells #[.pointer (some ⟨c, 0, none⟩)] 90) := ⟨_, rfl⟩; have HX1 := Lib.hid hX1; clear hX1; clear HN)
    | (refine ⟨trivial, ?_⟩; rw [← HX1.out]; gi_at_call 32; refine (callsIn_wide.2 (rootsF_any X1 p)).mono ?_; rintro e w2 ⟨rfl, hw2⟩))
  rw [← hw2]
  have hs1 : X1.heap.size = w1.heap.size + 1 := by rw [HX1.out]; simp
  have hs2 : w2.heap.size = X1.heap.size + 1 := by rw [hw2]; simp
  have b12 : Below w1.heap.size w1 X1 := by rw [HX1.out]; exact (Below.refl _ _).alloc (Nat.le_refl _) _
  have b2 : Below X1.heap.size X1 w2 := by rw [hw2]; exact (Below.refl _ _).alloc (Nat.le_refl _) _
  have bB : Below w.heap.size w w2 := (hb1.trans (b12.mono hb1.size)).trans (b2.mono (by have := hb1.size; omega))
  have hc2 := (hc1.kept b12 (Nat.le_refl _)).kept b2 (Nat.le_refl _)
  have hbox : w2.heap[w1.heap.size]? = some (.cells #[.pointer (some ⟨c, 0, none⟩)] 90 (0, 0)) := by
    rw [b2.block _ (by omega), HX1.out]; exact heap_alloc_new w1 _
  have hcl := blk_lt hc1.cell
  have hml := hc1.num.lt
  have hll := blk_lt hc1.leaf
  have hql : ∀ k, blk x.qv = some k → k < w1.heap.size := fun k e => hc1.row.lt k e
  have hF2 : Fo w.heap.size w1.heap.size x.m x.lb (blk x.qv) w2 p c [] w2 x :=
    ⟨hc2, rfl, rfl, Below.refl _ _, hbox, fun e => by have := hql _ e; omega, ⟨by omega, by omega, by omega⟩, fun k o a1 _ _ _ => a1, .inl rfl⟩
  have hb1c : w2.heap[X1.heap.size]? = some (.cells #[.pointer (some ⟨p, 0, none⟩)] 25 (0, 0)) := by rw [hw2]; exact heap_alloc_new X1 _
  have hR2 := HH.out.low hB bB
  have hBl : w.heap.size ≤ w2.heap.size := bB.size
  have hall : c < w2.heap.size ∧ x.m < w2.heap.size ∧ x.lb < w2.heap.size ∧ w1.heap.size < w2.heap.size ∧ w.heap.size ≤ w2.heap.size ∧ (∀ D ∈ ([] : List Nat), D < w2.heap.size) ∧ X1.heap.size < w2.heap.size ∧ X1.heap.size < w2.heap.size ∧ X1.heap.size ≠ c ∧ X1.heap.size ≠ c ∧ X1.heap.size ≠ x.m ∧ X1.heap.size ≠ x.m :=
    ⟨by omega, by omega, by omega, by omega, hBl, fun D hD => (List.not_mem_nil hD).elim, by omega, by omega, by omega, by omega, by omega, by omega⟩
  have hI0 : Ib w2.heap.size w.heap.size w1.heap.size x.m x.lb (blk x.qv) w2 p c [] X1.heap.size X1.heap.size [] w2 := ⟨⟨x, hF2, fun e => by have := hql _ e; omega, fun e => by have := hql _ e; omega⟩, fun D hD => (List.not_mem_nil hD).elim, Nat.le_refl _⟩
  have hBs := hb1.size
  clear hw2 hs1 hs2
  refine wpIn_rangeFunc_ownG (F := Fence.wide) (n := 9) rfl (by omega) (gf := 59) (lb := #[.pointer (some ⟨X1.heap.size, 0, none⟩)]) rfl trivial (enters_of Try.func59 (by kernel_rfl) rfl)
    (roots1_stops own w2 p s g hR2 w.heap.size X1.heap.size 8 (by omega) hB hBl hb1c) belowK_t (belowK_b hBl) (Below.refl _ _) (fun _ => rfl)
    (fun pre W => Ib w2.heap.size w.heap.size w1.heap.size x.m x.lb (blk x.qv) w2 p c [] X1.heap.size X1.heap.size (visL s [] (pre.map fun z => z.1)) W) (fun _ _ _ => False)
    (Ib.own (fun pre => visL s [] (List.map (fun z : Ow => z.1) pre)) ⟨hall.1, hall.2.1, hall.2.2.1, hall.2.2.2.1, hall.2.2.2.2.1, hall.2.2.2.2.2.1⟩ (Nat.le_refl _)) (fun _ _ _ _ _ hs _ _ => hs) hI0
    (fun z => { tmps := #[.pointer (some ⟨p, 0, none⟩), undef, .pointer none, .pointer (some ⟨w1.heap.size, 0, none⟩), .int .u64 z.1, .pointer (some ⟨p, 0, none⟩), .pointer (some ⟨c, 0, none⟩), .pointer (some ⟨p, 0, none⟩), .func (.func 59) #[] #[.pointer (some ⟨X1.heap.size, 0, none⟩)], .int .u64 z.1, undef, undef, undef, undef, undef, undef], defers := [] }) ?assign ?body ?done ?stop
  case assign =>
    intro l z W K hK
    simp only [encR]
    gi_wp2
    exact hK
  case body =>
    rintro l1 pre z W hI hlen2
    obtain ⟨⟨y1, hF, n1, n2⟩, hm, hz⟩ := hI
    have f4 := hF.cells
    have hvl := vd_len hw (visL_vd (pre.map fun z => z.1) [] (vd_nil s))
    have hn4 := hw.n
    have HV1 := visit_any own W p s g (hR2.low hB hF.below) w.heap.size c _ y1 hF.cs (by omega) z.1 z.2
    gi_wp2_with (refine ⟨trivial, ?_⟩; gi_at_call 57; refine (CallsIn.inRound l1 (callsIn_wide.2 HV1)).mono ?_; rintro e W' ⟨rfl, y2, hc3, hb4, hst⟩)
    obtain ⟨r1, r2, r3⟩ := Ib.visit hall hF n1 n2 hm hz hc3 hb4 hst
    refine ⟨r2, r3.1, ?_⟩
    show Ib _ _ _ _ _ _ _ _ _ _ _ _ (visL s [] (List.map (fun z : Ow => z.1) (pre ++ [z]))) W'
    rw [List.map_append, List.map_cons, List.map_nil, visL_snoc]
    exact r1
  case done =>
    rintro D xs W hD hxs hI hK
    obtain ⟨⟨y1, hF, n1, n2⟩, hm, hz⟩ := hI
    have hvis : visL s [] (xs.map fun z => z.1) = visL s [] (roots s) := by rw [hxs]
    rw [hvis] at hF
    have HFo := follow_any own W p s g (hR2.low hB hF.below) hw w.heap.size hB c _ y1 hF.cs (visL_vd (roots s) [] (vd_nil s))
    have f4 := hF.cells
    gi_wp2_with (refine ⟨trivial, ?_⟩; gi_at_call 58; refine (callsIn_wide.2 HFo).mono ?_; rintro e W' ⟨rfl, ⟨y2, hc3, hb3⟩, hk3⟩; have f5 : W'.cell? ⟨w1.heap.size, 0, none⟩ = some (.pointer (some ⟨c, 0, none⟩)) := cell_blk (hk3 _ _ hF.box hF.nc.1 (by rw [hF.hm]; exact hF.nc.2.1) hF.nq) 0; have hK2 : W'.heap[D]? = some (.deferred (some [])) := hk3 _ _ hK (fun e => by rw [e, hF.cs.cell] at hK; cases hK) (fun e => by obtain ⟨es, clock, hb9, _⟩ := hF.cs.num.map; rw [e, hb9] at hK; cases hK) (fun e => by obtain ⟨cs, fz, hb9⟩ := row_cells hF.cs.row e; rw [hb9] at hK; cases hK))
    refine ⟨by simp, .inl ⟨_, _, rfl, run_takeDeferred hK2, ?_⟩⟩
    have hoth : ∀ k, k ≠ D → (W'.putObj D (.deferred none)).heap[k]? = W'.heap[k]? := fun k hk => World.putObj_heap_other hk
    have hD0 : w.heap.size ≤ D := Nat.le_trans hBl hD
    have hnD : ∀ k o, W'.heap[k]? = some o → (∀ z, o ≠ .deferred z) → k ≠ D := fun k o ho hne e => by
      rw [e, hK2] at ho
      exact hne _ (Option.some.inj ho).symm
    refine ⟨_, results_tmp rfl _ _ _, c, y2, rfl, ?_, ?_⟩
    · obtain ⟨es, clock, hbm, hfit⟩ := hc3.num.map
      exact ⟨hc3.ge, (hoth c (hnD c _ hc3.cell (fun z e => by cases e))).trans hc3.cell, hc3.mge, hc3.num.kept (hoth _ (hnD _ _ hbm (fun z e => by cases e))),
        hc3.row.kept (fun k e => by
          obtain ⟨cs, fz, hcc⟩ := row_cells hc3.row e
          exact hoth k (hnD k _ hcc (fun z e => by cases e))), hc3.rge, hc3.lge, (hoth _ (hnD _ _ hc3.leaf (fun z e => by cases e))).trans hc3.leaf, hc3.ne⟩
    · have hall2 := (bB.trans hF.below).trans hb3
      exact hall2.trans ⟨rfl, rfl, rfl, by simp, fun k hk => hoth k (by omega)⟩
  case stop =>
    rintro D cc pre W _ _ hh _
    exact hh.elim
end Go.Proofs.Ytklbgccfcfldaaa.Wk
