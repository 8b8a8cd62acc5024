/- follow. -/
import Derived.Test.YtklbgccfcfldaaaE7
set_option linter.unusedVariables false
namespace Go.Proofs.Ytklbgccfcfldaaa.Wk
open Go.ChangeShapes Go.WideShapes Go.ChangeAt Go.RowKit Go.Shelf M
attribute [local go_sem] Oper.semAt_some

set_option maxRecDepth 100000 in
set_option maxHeartbeats 4000000 in
theorem follow_any (own : Own) (w : World) (p : Nat) (s : Hp) (g : Gh) (h : Rep own w p s g) (hw : Wf s) (B : Nat) (hB : ∀ k, own k ≠ none → k < B) (c : Nat) (l : List Int) (x : CG) (hc : Cs B w p c l x) (hv : Vd s l) :
    Calls Try.prog 58 #[.pointer (some ⟨c, 0, none⟩)] w fun e w' => e = .returned (.tuple #[]) ∧ (∃ x', Cs B w' p c (fol s [] s.n 0 l) x' ∧ Below B w w') ∧ ∀ k o, w.heap[k]? = some o → k ≠ c → k ≠ x.m → blk x.qv ≠ some k → w'.heap[k]? = some o := by
  refine (callsIn_wide (n := 9)).1 ?_
  refine callsIn_of_wp_marks Try.func58 rfl trivial ?_ rfl
  simp only [Try.ntmps58, List.size_toArray, List.length_cons, List.length_nil, Nat.reduceAdd, Nat.reduceSub, Array.replicate_succ, Array.replicate_zero, List.push_toArray, List.append_toArray, List.nil_append, List.cons_append]
  have hBw : B ≤ w.heap.size := by have := hc.ge; have := blk_lt hc.cell; omega
  have hF0 : Fo B w.heap.size x.m x.lb (blk x.qv) w p c l (w.alloc (.cells #[.pointer (some ⟨c, 0, none⟩)] 90)) x := by
    have hb : Below w.heap.size w (w.alloc (.cells #[.pointer (some ⟨c, 0, none⟩)] 90)) := (Below.refl _ _).alloc (Nat.le_refl _) _
    have h1 := blk_lt hc.cell
    have h2 := hc.num.lt
    have h3 := blk_lt hc.leaf
    exact ⟨hc.kept hb (Nat.le_refl _), rfl, rfl, hb.mono hBw, heap_alloc_new w _, fun e => by have := hc.row.lt _ e; omega, ⟨by omega, by omega, by omega⟩, fun k o a1 a2 a3 a4 => (hb.block k (blk_lt a1)).trans a1, .inl rfl⟩
  have HH := Lib.hid h
  have HF0 := Lib.hid hF0
  have HV := Lib.hid hv
  clear h hc hF0 hv
  gi_wp2
  refine wpIn_loop (fun a' wr => ∃ (i : Nat) (q : List Int) (y : CG) (Ds : List Nat) (u3 u4 u5 u7 u8 u9 u10 u11 u12 u13 u14 u15 u16 u17 u18 u19 u20 u21 u22 u23 u24 u25 u26 u27 u28 u29 u30 u31 u32 u33 u34 u35 u36 u37 u38 u39 u40 u41 u42 u43 u46 u47 u48 : Value), a' = { tmps := #[(.pointer (some ⟨c, 0, none⟩)), (.pointer (some ⟨w.heap.size, 0, none⟩)), (.int .i64 (i : Int)), u3, u4, u5, undef, u7, u8, u9, u10, u11, u12, u13, u14, u15, u16, u17, u18, u19, u20, u21, u22, u23, u24, u25, u26, u27, u28, u29, u30, u31, u32, u33, u34, u35, u36, u37, u38, u39, u40, u41, u42, u43, undef, undef, u46, u47, u48], defers := Ds.map mkD } ∧ i ≤ q.length ∧ Fo B w.heap.size x.m x.lb (blk x.qv) w p c q wr y ∧ Vd s q ∧ fol s [] (s.n - i) i q = fol s [] s.n 0 l ∧ Mks wr Ds ∧ Ds.Nodup ∧ (∀ D ∈ Ds, w.heap.size ≤ D)) (fun a' _ => s.n - (intOf (a'.tmps.getD 2 undef)).toNat) ?_ ?_
  · exact ⟨0, l, x, [], _, _, _, _, _, _, _, _, _, _, _, _, _, _, _, _, _, _, _, _, _, _, _, _, _, _, _, _, _, _, _, _, _, _, _, _, _, _, _, _, _, _, _, rfl, Nat.zero_le _, HF0.out, HV.out, rfl, fun D hD => (List.not_mem_nil hD).elim, List.nodup_nil, fun D hD => (List.not_mem_nil hD).elim⟩
  · rintro a' wr ⟨i, q, y, Ds, u3, u4, u5, u7, u8, u9, u10, u11, u12, u13, u14, u15, u16, u17, u18, u19, u20, u21, u22, u23, u24, u25, u26, u27, u28, u29, u30, u31, u32, u33, u34, u35, u36, u37, u38, u39, u40, u41, u42, u43, u46, u47, u48, rfl, hi, hF, hV, hfol, hmk, hnd, hge⟩
    have hlen := vd_len hw hV
    have hn4 := hw.n
    have e0 := cell_blk hF.box 0
    have ec0 := cell_blk hF.cs.cell 0
    have ec2 := cell_blk hF.cs.cell 2
    have hcl := blk_lt hF.cs.cell
    obtain ⟨qa, qc, hqv, hqn, hqx⟩ := hF.cs.row.cells
    simp only [cenV] at ec0 ec2
    rw [hqv] at ec2
    by_cases hlt : i < q.length
    · obtain ⟨o, ho⟩ : ∃ o, q[i]? = some o := ⟨q[i], by simp [hlt]⟩
      have hob : isOb s o = true := hV.2 o (List.mem_of_getElem? ho)
      have hor := isOb_lt hw hob
      obtain ⟨gq, hqa, hqc⟩ := hqx i (.int .u64 o) (by simp [ocells, ho])
      subst hqa
      have hlt2 : (i : Int) < q.length := by omega
      have hRr := HH.out.low hB hF.below
      have HHd := head_y own wr p s g hRr hw o hor.1 hor.2 hob
      dsimp only [hdCells] at HHd
      have hk0 : 0 ≤ uC (s.mem (atO o)) ∧ uC (s.mem (atO o)) ≤ 9223372036854775807 := by unfold uC; omega
      generalize uC (s.mem (atO o)) = k0 at *
      generalize uF (s.mem (atO o)) = k1 at *
      generalize uS (s.mem (atO o)) = k2 at *
      generalize uH (s.mem (atO o)) = k3 at *
      generalize uA (s.mem (atO o)) = k4 at *
      generalize uM (s.mem (atO o)) = k5 at *
      generalize uN (s.mem (atO o)) = k6 at *
      generalize ((sl s (atO o) : Nat) : Int) = k7 at *
      have hW1 : ∀ W1, Below wr.heap.size wr W1 → ∃ X1, X1 = W1.alloc (.cells #[.int .i64 k0, .int .u8 k1, .int .i64 k2, .int .i64 k3, .int .i64 k4, .int .i64 k7, .bool k5, .bool k6] 78) ∧ Fo B w.heap.size x.m x.lb (blk x.qv) w p c q X1 y ∧ X1.heap[W1.heap.size]? = some (.cells #[.int .i64 k0, .int .u8 k1, .int .i64 k2, .int .i64 k3, .int .i64 k4, .int .i64 k7, .bool k5, .bool k6] 78 (0, 0)) := fun W1 hb1 =>
        ⟨_, rfl, hF.kept (hb1.alloc hb1.size _), heap_alloc_new W1 _⟩
      have HW1 := Lib.hid hW1
      have HFo := Lib.hid hF
      have HFol := Lib.hid hfol
      have HRr := Lib.hid hRr
      have HQX := Lib.hid (And.intro hqn (And.intro hqx hqv))
      clear hW1 hF hfol hRr hqn hqx hqv
      gi_wp2_with (first
        | (refine ⟨trivial, ?_⟩; gi_at_call 34; refine (callsIn_wide.2 HHd).mono ?_; rintro e W1 ⟨rfl, hb1⟩; obtain ⟨X1, hX1, hF1, hX1b⟩ := HW1.out W1 hb1; have f1 := hF1.cells; have f2 := box8 hX1b; have HL := isLeaf_any B X1 p c q y hF1.cs k0 k1 k2 k3 k4 k7 k5 k6 hk0; rw [hX1] at f1 f2 HL; have HF1 := Lib.hid hF1; have HX1 := Lib.hid hX1; clear hF1 hX1 hX1b HHd)
        | (refine ⟨trivial, ?_⟩; gi_at_call 77; refine (callsIn_wide.2 HL).mono ?_; rintro e w2 ⟨rfl, hb2⟩; rw [← HX1.out] at hb2; clear f1 f2 HL; have HF2 := Lib.hid (HF1.out.kept hb2); have f3 := HF2.out.cells; have HB2 := Lib.hid hb2; clear hb2)
        | (refine ⟨trivial, ?_⟩; gi_at_call 62; refine (callsIn_wide.2 (oopsF_any w2 p o)).mono ?_; rintro e w3 ⟨rfl, hw3⟩))
      rw [← hw3]
      have hb3 : Below w2.heap.size w2 w3 := by rw [hw3]; exact ((Below.refl _ _).alloc (Nat.le_refl _) _).alloc (by simp) _
      have hs3 : w3.heap.size = w2.heap.size + 2 := by rw [hw3]; simp
      have hc1 : w3.heap[w2.heap.size]? = some (.cells #[.pointer (some ⟨p, 0, none⟩)] 25 (0, 0)) := by
        rw [hw3, Below.heap_alloc _ _ _ (by simp)]; exact heap_alloc_new w2 _
      have hc2 : w3.heap[w2.heap.size + 1]? = some (.cells #[.int .u64 o] 33 (0, 0)) := by
        have := heap_alloc_new (w2.alloc (.cells #[.pointer (some ⟨p, 0, none⟩)] 25)) (.cells #[.int .u64 o] 33)
        rw [World.size_alloc] at this
        rw [hw3]; exact this
      have hF3 := HF2.out.kept hb3
      have hR3 := HH.out.low hB hF3.below
      have hbw3 : Below wr.heap.size wr w3 := by
        have h1 : Below wr.heap.size wr X1 := by rw [HX1.out]; exact hb1.alloc hb1.size _
        have h2 := h1.trans (HB2.out.mono h1.size)
        exact h2.trans (hb3.mono h2.size)
      have hm3 : Mks w3 Ds := fun D hD => (hbw3.block D (blk_lt (hmk D hD))).trans (hmk D hD)
      have hDl : ∀ D ∈ Ds, D < w3.heap.size := fun D hD => blk_lt (hm3 D hD)
      have hcl2 := HF2.out.cells
      have hml2 : x.m < w2.heap.size := by have := HF2.out.cs.num.lt; rw [HF2.out.hm] at this; exact this
      have hll2 : x.lb < w2.heap.size := by have := blk_lt HF2.out.cs.leaf; rw [HF2.out.hlb] at this; exact this
      have hBl : B ≤ w3.heap.size := by have := HF2.out.cs.ge; omega
      have hq3 : ∀ k, blk y.qv = some k → k < w2.heap.size := fun k e => HF2.out.cs.row.lt k e
      have hall : c < w3.heap.size ∧ x.m < w3.heap.size ∧ x.lb < w3.heap.size ∧ w.heap.size < w3.heap.size ∧ B ≤ w3.heap.size ∧ (∀ D ∈ Ds, D < w3.heap.size) ∧ w2.heap.size < w3.heap.size ∧ w2.heap.size + 1 < w3.heap.size ∧ w2.heap.size ≠ c ∧ w2.heap.size + 1 ≠ c ∧ w2.heap.size ≠ x.m ∧ w2.heap.size + 1 ≠ x.m :=
        ⟨by omega, by omega, by omega, by omega, hBl, hDl, by omega, by omega, by omega, by omega, by omega, by omega⟩
      have hI0 : Ib w3.heap.size B w.heap.size x.m x.lb (blk x.qv) w p c Ds w2.heap.size (w2.heap.size + 1) q w3 := ⟨⟨y, hF3, fun e => by have := hq3 _ e; omega, fun e => by have := hq3 _ e; omega⟩, hm3, Nat.le_refl _⟩
      refine wpIn_rangeFunc_ownG (F := Fence.wide) (n := 9) rfl (by omega) (gf := 78) (lb := #[.pointer (some ⟨w2.heap.size, 0, none⟩), .pointer (some ⟨w2.heap.size + 1, 0, none⟩)]) rfl trivial (enters_of Try.func78 (by kernel_rfl) rfl)
        (oops1_stops own w3 p s g hR3 hw o hor.1 hor.2 hob B w2.heap.size (w2.heap.size + 1) 8 (by omega) hB hBl hc1 hc2) kps_t (kps_b hBl (by omega) (by omega)) (Below.refl _ _) (fun _ => rfl)
        (fun pre W => Ib w3.heap.size B w.heap.size x.m x.lb (blk x.qv) w p c Ds w2.heap.size (w2.heap.size + 1) (visL s q (pre.map fun z => z.2.1)) W) (fun _ _ _ => False)
        (Ib.own (fun pre => visL s q (List.map (fun z : Nat × Ow => z.2.1) pre)) ⟨hall.1, hall.2.1, hall.2.2.1, hall.2.2.2.1, hall.2.2.2.2.1, hall.2.2.2.2.2.1⟩ (Nat.le_of_lt hall.2.2.2.1)) (fun _ _ _ _ _ hs _ _ => hs) hI0
        (fun z => { tmps := #[.pointer (some ⟨c, 0, none⟩), .pointer (some ⟨w.heap.size, 0, none⟩), .int .i64 (i : Int), .int .u64 o, .pointer (some ⟨W1.heap.size, 0, none⟩), .int .i64 0, undef, .int .u64 z.2.1, .int .i64 (i : Int), .pointer (some ⟨c, 0, none⟩), .pointer (some ⟨c, 0, none⟩), .pointer (some ⟨c, 2, none⟩), .slice (some ⟨gq, 0, none⟩) q.length qc, .int .i64 (q.length : Int), .bool true, u15, u16, .pointer (some ⟨c, 0, none⟩), .pointer (some ⟨c, 0, none⟩), .pointer (some ⟨c, 2, none⟩), .slice (some ⟨gq, 0, none⟩) q.length qc, .int .i64 (i : Int), .pointer (some ⟨gq, i, none⟩), .int .u64 o, .tuple #[.agg #[.int .i64 k0, .int .u8 k1, .int .i64 k2, .int .i64 k3, .int .i64 k4, .int .i64 k7, .bool k5, .bool k6], .int .i64 0], .pointer (some ⟨c, 0, none⟩), .pointer (some ⟨c, 0, none⟩), .pointer (some ⟨c, 0, none⟩), .pointer (some ⟨c, 0, none⟩), .pointer (some ⟨p, 0, none⟩), .int .u64 o, .tuple #[.agg #[.int .i64 k0, .int .u8 k1, .int .i64 k2, .int .i64 k3, .int .i64 k4, .int .i64 k7, .bool k5, .bool k6], .int .i64 0], .agg #[.int .i64 k0, .int .u8 k1, .int .i64 k2, .int .i64 k3, .int .i64 k4, .int .i64 k7, .bool k5, .bool k6], .int .i64 0, .pointer (some ⟨c, 0, none⟩), .agg #[.int .i64 k0, .int .u8 k1, .int .i64 k2, .int .i64 k3, .int .i64 k4, .int .i64 k7, .bool k5, .bool k6], .bool false, .pointer (some ⟨c, 0, none⟩), .pointer (some ⟨c, 0, none⟩), .pointer (some ⟨c, 0, none⟩), .pointer (some ⟨c, 0, none⟩), .pointer (some ⟨p, 0, none⟩), .int .u64 o, .func (.func 78) #[] #[.pointer (some ⟨w2.heap.size, 0, none⟩), .pointer (some ⟨w2.heap.size + 1, 0, none⟩)], .int .i64 (z.1 : Int), .int .u64 z.2.1, u46, u47, u48], defers := [] }) ?assign ?body ?done ?stop
      case assign =>
        intro l z W K hK
        simp only [encP]
        gi_wp2
        exact hK
      case body =>
        rintro l1 pre z W hI hlen2
        obtain ⟨⟨y1, hF, n1, n2⟩, hm, hz⟩ := hI
        have f4 := hF.cells
        have hvl := vd_len hw (visL_vd (pre.map fun z => z.2.1) q hV)
        have HV1 := visit_any own W p s g (HH.out.low hB hF.below) B c _ y1 hF.cs (by omega) z.2.1 z.2.2
        gi_wp2_with (refine ⟨trivial, ?_⟩; gi_at_call 57; refine (CallsIn.inRound l1 (callsIn_wide.2 HV1)).mono ?_; rintro e W' ⟨rfl, y2, hc3, hb4, hst⟩)
        obtain ⟨r1, r2, r3⟩ := Ib.visit hall hF n1 n2 hm hz hc3 hb4 hst
        refine ⟨r2, r3, ?_⟩
        show Ib _ _ _ _ _ _ _ _ _ _ _ _ (visL s q (List.map (fun z : Nat × Ow => z.2.1) (pre ++ [z]))) W'
        rw [List.map_append, List.map_cons, List.map_nil, visL_snoc]
        exact r1
      case done =>
        rintro D xs W hD rfl hI hK
        obtain ⟨⟨y1, hF, n1, n2⟩, hm, hz⟩ := hI
        have hvis : visL s q ((upto (slotW s hw.mem (atO o)) (nOops s (atO o))).map fun z => z.2.1) = visL s q (oopsL s (atO o)) := by
          congr 1; simp [upto, oopsL, slotW, List.map_map]
        rw [hvis] at hF
        have hstep : fol s [] (s.n - (i + 1)) (i + 1) (visL s q (oopsL s (atO o))) = fol s [] s.n 0 l := by
          rw [← HFol.out, show s.n - i = (s.n - (i + 1)) + 1 from by omega, fol_step s _ i q o ho]
        have hpre := (visL_prefix s (oopsL s (atO o)) q).length_le
        have hnd2 : (D :: Ds).Nodup := List.nodup_cons.2 ⟨fun e => by have := hDl D e; omega, hnd⟩
        have hmk2 : Mks W (D :: Ds) := fun D' hD' => by
          rcases List.mem_cons.1 hD' with rfl | h
          · exact hK
          · exact hm D' h
        have hge2 : ∀ D' ∈ D :: Ds, w.heap.size ≤ D' := fun D' hD' => by
          rcases List.mem_cons.1 hD' with rfl | h
          · omega
          · exact hge D' h
        gi_wp2
        refine ⟨⟨i + 1, visL s q (oopsL s (atO o)), y1, D :: Ds, _, _, _, _, _, _, _, _, _, _, _, _, _, _, _, _, _, _, _, _, _, _, _, _, _, _, _, _, _, _, _, _, _, _, _, _, _, _, _, _, _, _, _, rfl, by omega, hF, visL_vd _ _ hV, hstep, hmk2, hnd2, hge2⟩, ?_⟩
        simp [intOf]; omega
      case stop =>
        rintro D cc pre W _ _ hh _
        exact hh.elim
    · have hii : i = q.length := by omega
      subst hii
      have hfin : fol s [] s.n 0 l = q := by rw [← hfol]; exact fol_end _ _ _ _ _ (by simp)
      clear hfol
      gi_wp2
      refine leaves_marks Ds _ hmk hnd fun W' z1 z2 z3 z4 z5 => ?_
      refine ⟨_, results_none rfl _ _ _, rfl, ⟨y, ?_, ?_⟩, fun k o a1 a2 a3 a4 => (z5 k (fun hkd => by have := hge k hkd; have := blk_lt a1; omega)).trans (hF.dk k o a1 a2 a3 a4)⟩
      · have hmd : ∀ k o, wr.heap[k]? = some o → (∀ z, o ≠ .deferred z) → k ∉ Ds := fun k o ho hne hk => by
          have := hmk k hk
          rw [ho] at this
          exact hne _ (Option.some.inj this)
        rw [hfin]
        obtain ⟨es, clock, hb2, hfit⟩ := hF.cs.num.map
        exact ⟨hF.cs.ge, (z5 c (hmd c _ hF.cs.cell (fun z e => by cases e))).trans hF.cs.cell, hF.cs.mge, hF.cs.num.kept (z5 _ (hmd _ _ hb2 (fun z e => by cases e))),
          hF.cs.row.kept (fun k e => by
            obtain ⟨cs, fz, hcc⟩ := row_cells hF.cs.row e
            exact z5 k (hmd k _ hcc (fun z e => by cases e))), hF.cs.rge, hF.cs.lge, (z5 _ (hmd _ _ hF.cs.leaf (fun z e => by cases e))).trans hF.cs.leaf, hF.cs.ne⟩
      · exact ⟨z2.trans hF.below.os, z3.trans hF.below.tape, z4.trans hF.below.output, by rw [← z1]; exact hF.below.size, fun k hk => (z5 k (fun hkd => by have := hge k hkd; omega)).trans (hF.below.block k hk)⟩
end Go.Proofs.Ytklbgccfcfldaaa.Wk
