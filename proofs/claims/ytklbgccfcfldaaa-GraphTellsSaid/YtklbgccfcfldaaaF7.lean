/- An object, appended. -/
import Derived.Test.YtklbgccfcfldaaaF6
set_option linter.unusedVariables false
namespace Go.Proofs.Ytklbgccfcfldaaa.Wk
open Go.ChangeShapes Go.WideShapes Go.ChangeAt Go.RowKit Go.Shelf M
attribute [local go_sem] Oper.semAt_some
attribute [-go_sem] Builtin.append_

set_option maxRecDepth 100000 in
set_option maxHeartbeats 4000000 in
theorem appendObject_any (own : Own) (w : World) (p : Nat) (s : Hp) (g : Gh) (h : Rep own w p s g) (hw : Wf s) (B : Nat) (hB : ∀ k, own k ≠ none → k < B) (c : Nat) (q : List Int) (x : CG) (hc : Cs B w p c q x) (hq : q.length ≤ 4194304)
    (v : Value) (l : List Int) (hv : Wr w v l) (hvB : ∀ k, blk v = some k → B ≤ k ∧ k ≠ c ∧ k ≠ x.m ∧ k ≠ x.lb ∧ blk x.qv ≠ some k) (hl : l.length ≤ 1099400000000) (o : Int) (ho : isOb s o = true) (cl f sp hs a le : Int) (m n : Bool) (hh : hdB cl f sp hs 0 le = true) (hf : fmt s (atO o) = f) :
    Calls Try.prog 35 #[.pointer (some ⟨c, 0, none⟩), v, .int .u64 o, hdV cl f sp hs a le m n] w fun e w' => ∃ v', e = .returned v' ∧ Wr w' v' (l ++ [packA cl f sp hs 0 false false, le] ++ (oopsL s (atO o)).map (nameL q) ++ restL s (atO o)) ∧ Gr w w' v v' := by
  have hor := isOb_lt hw ho
  have hBw : B ≤ w.heap.size := by have := hc.ge; have := blk_lt hc.cell; omega
  refine (callsIn_wide (n := 9)).1 ?_
  refine callsIn_of_wp_marks Try.func35 rfl trivial ?_ rfl
  simp only [Try.ntmps35, List.size_toArray, List.length_cons, List.length_nil, Nat.reduceAdd, Nat.reduceSub, Array.replicate_succ, Array.replicate_zero, List.push_toArray, List.append_toArray, List.nil_append, List.cons_append]
  obtain ⟨va, vc, hve⟩ := hv.form
  obtain ⟨ln, hln⟩ : ∃ ln, l.length = ln := ⟨_, rfl⟩
  rw [hln] at hve
  subst hve
  have hcl := blk_lt hc.cell
  have hml := hc.num.lt
  have hll := blk_lt hc.leaf
  have hqs : ∀ k, blk x.qv = some k → k < w.heap.size := fun k e => hc.row.lt k e
  have hvs : ∀ k, blk (.slice va ln vc) = some k → k < w.heap.size := fun k e => hv.lt k e
  obtain ⟨X, hX⟩ : ∃ X, X = ((w.alloc (.cells #[.pointer (some ⟨c, 0, none⟩)] 90)).alloc (.cells #[.slice va ln vc] 42)).alloc (.cells #[.int .i64 cl, .int .u8 f, .int .i64 sp, .int .i64 hs, .int .i64 a, .int .i64 le, .bool m, .bool n] 78) := ⟨_, rfl⟩
  have hbX : Below w.heap.size w X := by rw [hX]; exact (((Below.refl _ _).alloc (Nat.le_refl _) _).alloc (by simp) _).alloc (by simp; omega) _
  have hX4 : X.heap[w.heap.size]? = some (.cells #[.pointer (some ⟨c, 0, none⟩)] 90 (0, 0)) := by
    rw [hX, Below.heap_alloc _ _ _ (by simp; omega), Below.heap_alloc _ _ _ (by simp)]; exact heap_alloc_new w _
  have hX5 : X.heap[w.heap.size + 1]? = some (.cells #[.slice va ln vc] 42 (0, 0)) := by
    rw [hX, Below.heap_alloc _ _ _ (by simp)]
    have := heap_alloc_new (w.alloc (.cells #[.pointer (some ⟨c, 0, none⟩)] 90)) (.cells #[.slice va ln vc] 42)
    rw [World.size_alloc] at this; exact this
  have hX7 : X.heap[w.heap.size + 1 + 1]? = some (.cells #[.int .i64 cl, .int .u8 f, .int .i64 sp, .int .i64 hs, .int .i64 a, .int .i64 le, .bool m, .bool n] 78 (0, 0)) := by
    have := heap_alloc_new ((w.alloc (.cells #[.pointer (some ⟨c, 0, none⟩)] 90)).alloc (.cells #[.slice va ln vc] 42)) (.cells #[.int .i64 cl, .int .u8 f, .int .i64 sp, .int .i64 hs, .int .i64 a, .int .i64 le, .bool m, .bool n] 78)
    rw [World.size_alloc, World.size_alloc] at this
    rw [hX]; exact this
  have hNb0 : Nb B w.heap.size (w.heap.size + 1) c p q x w (.slice va ln vc) (.slice va ln vc) l X :=
    ⟨hc.kept hbX (Nat.le_refl _), hX4, hX5, hv.below hbX, Gr.of_below _ hbX, fun k e => by
      have h1 := hvB k e
      have h2 := hvs k e
      exact ⟨h1.2.1, h1.2.2.1, h1.2.2.2.1, h1.2.2.2.2, by omega, by omega⟩, ⟨by omega, by omega, by omega, fun e => by have := hqs _ e; omega⟩, ⟨by omega, by omega⟩⟩
  have hAH := appendHead_any X (.slice va ln vc) l (hv.below hbX) (by omega) cl f sp hs a le m n hh
  have hAH2 := hAH.mono (R' := fun e w1 => ∃ a1 n1 c1, e = .returned (.slice a1 n1 c1) ∧ (w1.cell? ⟨w.heap.size + 1, 0, none⟩ = some (.slice va ln vc) ∧ w1.frozen? ⟨w.heap.size + 1, 0, none⟩ = false ∧ w.heap.size + 1 < w1.heap.size ∧ w1.cell? ⟨w.heap.size, 0, none⟩ = some (.pointer (some ⟨c, 0, none⟩)) ∧ w1.cell? ⟨c, 0, none⟩ = some (.pointer (some ⟨p, 0, none⟩)) ∧ c < w1.heap.size) ∧
      (Nb B w.heap.size (w.heap.size + 1) c p q x w (.slice va ln vc) (.slice a1 n1 c1) (l ++ [packA cl f sp hs 0 false false, le]) (w1.setCell ⟨w.heap.size + 1, 0, none⟩ (.slice a1 n1 c1)) ∧
       (w1.setCell ⟨w.heap.size + 1, 0, none⟩ (.slice a1 n1 c1)).heap[w.heap.size + 1 + 1]? = some (.cells #[.int .i64 cl, .int .u8 f, .int .i64 sp, .int .i64 hs, .int .i64 a, .int .i64 le, .bool m, .bool n] 78 (0, 0)))) (by
    rintro e w1 ⟨v1, rfl, hr1, hg1⟩
    obtain ⟨a1, c1, e1⟩ := hr1.form
    subst e1
    have h5 : w1.heap[w.heap.size + 1]? = _ := (hg1.g.block _ (blk_lt hX5) (fun e => by have := hvs _ e.symm; omega)).trans hX5
    have h7 : w1.heap[w.heap.size + 1 + 1]? = _ := (hg1.g.block _ (blk_lt hX7) (fun e => by have := hvs _ e.symm; omega)).trans hX7
    have hN := hNb0.put hr1 hg1
    have hc4 : w1.heap[w.heap.size]? = _ := (blk_set_other w1 (w.heap.size + 1) 0 w.heap.size _ (by omega)).symm.trans hN.box4
    have hcc : w1.heap[c]? = _ := (blk_set_other w1 (w.heap.size + 1) 0 c _ (by omega)).symm.trans hN.cs.cell
    exact ⟨a1, _, c1, rfl, ⟨cell_blk h5 0, frozen_blk h5 0, blk_lt h5, cell_blk hc4 0, cell_blk hcc 0, blk_lt hcc⟩, hN, (blk_set_other _ _ _ _ _ (by omega)).trans h7⟩)
  have HX := Lib.hid hX
  have HH := Lib.hid h
  have HV := Lib.hid hv
  have HVB := Lib.hid hvB
  rw [hX] at hAH2
  clear h hc hv hvB hX hAH hNb0 hX4 hX5 hX7 hbX
  gi_wp2_with (first
    | (refine ⟨trivial, ?_⟩; gi_at_call 61; refine (callsIn_wide.2 hAH2).mono ?_; rintro e w1 ⟨a1, n1, c1, rfl, ⟨k5, kf, kl, y4, yc, yl⟩, hNB, h7⟩; obtain ⟨X2, hX2⟩ : ∃ X2, X2 = w1.setCell ⟨w.heap.size + 1, 0, none⟩ (.slice a1 n1 c1) := ⟨_, rfl⟩; rw [← hX2] at hNB h7; have HNB := Lib.hid hNB; have H7 := Lib.hid h7; have HX2 := Lib.hid hX2; clear hX2 hNB h7 hAH2)
    | (rw [← HX2.out]; refine ⟨trivial, ?_⟩; gi_at_call 62; refine (callsIn_wide.2 (oopsF_any X2 p o)).mono ?_; rintro e w3 ⟨rfl, hw3⟩))
  rw [← hw3]
  have hb3 : Below X2.heap.size X2 w3 := by rw [hw3]; exact ((Below.refl _ _).alloc (Nat.le_refl _) _).alloc (by simp) _
  have hs3 : w3.heap.size = X2.heap.size + 2 := by rw [hw3]; simp
  have hc1 : w3.heap[X2.heap.size]? = some (.cells #[.pointer (some ⟨p, 0, none⟩)] 25 (0, 0)) := by
    rw [hw3, Below.heap_alloc _ _ _ (by simp)]; exact heap_alloc_new X2 _
  have hc2 : w3.heap[X2.heap.size + 1]? = some (.cells #[.int .u64 o] 33 (0, 0)) := by
    have := heap_alloc_new (X2.alloc (.cells #[.pointer (some ⟨p, 0, none⟩)] 25)) (.cells #[.int .u64 o] 33)
    rw [World.size_alloc] at this
    rw [hw3]; exact this
  have hN3 := HNB.out.below hb3
  have h73 : w3.heap[w.heap.size + 1 + 1]? = some (.cells #[.int .i64 cl, .int .u8 f, .int .i64 sp, .int .i64 hs, .int .i64 a, .int .i64 le, .bool m, .bool n] 78 (0, 0)) := (hb3.block _ (blk_lt H7.out)).trans H7.out
  have h7l := blk_lt H7.out
  have hvB2 : ∀ W v2 l2, Nb B w.heap.size (w.heap.size + 1) c p q x w (.slice va ln vc) v2 l2 W → ∀ k, blk v2 = some k → B ≤ k := fun W v2 l2 hN k e => by
    rcases hN.gr.b with e2 | e2
    · exact (HVB.out k (by rw [← e2]; exact e)).1
    · have := e2 k e; omega
  have hrep : ∀ W v2 l2, Nb B w.heap.size (w.heap.size + 1) c p q x w (.slice va ln vc) v2 l2 W → Rep own W p s g := fun W v2 l2 hN => HH.out.gr hN.gr (fun k e => by
    cases e2 : own k with
    | none => rfl
    | some l => exact absurd (hB k (by rw [e2]; simp)) (by have := (HVB.out k e).1; omega))
  have hR3 := hrep w3 _ _ hN3
  have hBl : B ≤ w3.heap.size := by omega
  have hnq : ∀ b, X2.heap.size ≤ b → blk (.slice a1 n1 c1) ≠ some b := fun b hb e => by have := HNB.out.wr.lt b e; omega
  have hn7 : blk (.slice a1 n1 c1) ≠ some (w.heap.size + 1 + 1) := fun e => by
    obtain ⟨cs, fz, hcc⟩ := row_cells HNB.out.wr e
    rw [H7.out] at hcc; cases hcc
  have hI0 : Ni B w.heap.size (w.heap.size + 1) c p q x w (.slice va ln vc) X2.heap.size (X2.heap.size + 1) (w.heap.size + 1 + 1) #[.int .i64 cl, .int .u8 f, .int .i64 sp, .int .i64 hs, .int .i64 a, .int .i64 le, .bool m, .bool n] (l ++ [packA cl f sp hs 0 false false, le]) w3 := ⟨_, hN3, hnq _ (Nat.le_refl _), hnq _ (by omega), hn7, h73⟩
  have hlo : (oopsL s (atO o)).length ≤ 4194304 := by
    have q1 := nOops_le hw (isOb_at hw ho).2
    have q2 := (hw.st _ (isOb_at hw ho).2).2.1
    have q3 := hw.n
    simp only [oopsL, List.length_map, List.length_range]; omega
  have hnl : nOops s (atO o) ≤ 4194304 := by simpa [oopsL] using hlo
  refine wpIn_rangeFunc_ownG (F := Fence.wide) (n := 9) rfl (by omega) (gf := 78) (lb := #[.pointer (some ⟨X2.heap.size, 0, none⟩), .pointer (some ⟨X2.heap.size + 1, 0, none⟩)]) rfl trivial (enters_of Try.func78 (by kernel_rfl) rfl)
    (oops1_stops own w3 p s g hR3 hw o hor.1 hor.2 ho B X2.heap.size (X2.heap.size + 1) 8 (by omega) hB hBl hc1 hc2) kps_t (kps_b hBl (by omega) (by omega)) (Below.refl _ _) (fun _ => rfl)
    (fun pre W => Ni B w.heap.size (w.heap.size + 1) c p q x w (.slice va ln vc) X2.heap.size (X2.heap.size + 1) (w.heap.size + 1 + 1) #[.int .i64 cl, .int .u8 f, .int .i64 sp, .int .i64 hs, .int .i64 a, .int .i64 le, .bool m, .bool n] (l ++ [packA cl f sp hs 0 false false, le] ++ pre.map fun z => nameL q z.2.1) W ∧ w3.heap.size ≤ W.heap.size) (fun _ _ _ => False)
    (OwnFrom.and (Ni.own (fun pre => l ++ [packA cl f sp hs 0 false false, le] ++ List.map (fun z : Nat × Ow => nameL q z.2.1) pre) ⟨by omega, by omega, by omega, by omega, by omega, by omega⟩) (fun _ _ _ _ hs hg _ => Nat.le_trans hs hg.size)) (fun _ _ _ _ _ hs _ _ => hs) ⟨by simpa using hI0, Nat.le_refl _⟩
    (fun z => { tmps := #[.pointer (some ⟨c, 0, none⟩), .slice va ln vc, .int .u64 o, hdV cl f sp hs a le m n, .pointer (some ⟨w.heap.size, 0, none⟩), .pointer (some ⟨w.heap.size + 1, 0, none⟩), undef, .pointer (some ⟨w.heap.size + 1 + 1, 0, none⟩), .slice none 0 0, undef, .int .u64 z.2.1, .slice va ln vc, .agg #[.int .i64 cl, .int .u8 f, .int .i64 sp, .int .i64 hs, .int .i64 a, .int .i64 le, .bool m, .bool n], .slice a1 n1 c1, .pointer (some ⟨c, 0, none⟩), .pointer (some ⟨c, 0, none⟩), .pointer (some ⟨c, 0, none⟩), .pointer (some ⟨c, 0, none⟩), .pointer (some ⟨p, 0, none⟩), .int .u64 o, .func (.func 78) #[] #[.pointer (some ⟨X2.heap.size, 0, none⟩), .pointer (some ⟨X2.heap.size + 1, 0, none⟩)], .int .i64 (z.1 : Int), .int .u64 z.2.1, undef, undef, undef, undef, undef, undef, undef, undef, undef, undef, undef, undef, undef, undef, undef, undef, undef, undef, undef, undef, undef, undef, undef, undef, undef, undef, undef, undef], defers := [] }) ?assign ?body ?done ?stop
  case assign =>
    intro l z W K hK
    simp only [encP]
    gi_wp2
    exact hK
  case body =>
    rintro l1 pre z W hI hlen2
    obtain ⟨⟨v2, hN, n1', n2', n7', h7W⟩, hsz⟩ := hI
    have hmx : Try.prog.follows .mixedOrders = true := by kernel_rfl
    have hlenp : pre.length ≤ 4194304 := by omega
    have hNm := name_any W.drew p x.m x.k x.D q (hN.cs.num.kept rfl) (by omega) z.2.1 z.2.2
    have hap : ∀ w2, Below W.drew.heap.size W.drew w2 → ∃ v3 w4, (w2.cell? ⟨w.heap.size + 1, 0, none⟩ = some v2 ∧ w2.cell? ⟨w.heap.size, 0, none⟩ = some (.pointer (some ⟨c, 0, none⟩)) ∧ w2.cell? ⟨c, 0, none⟩ = some (.pointer (some ⟨p, 0, none⟩)) ∧ w2.cell? ⟨c, 1, none⟩ = some (.map (some x.m)) ∧ c < w2.heap.size ∧ w.heap.size + 1 < w2.heap.size) ∧
        (Builtin.append_ #[42, 42] 42 #[v2, .slice (some ⟨w2.heap.size, 0, none⟩) 1 1]).run Try.prog (w2.alloc (.cells #[.int .u64 (nameL q z.2.1)] 32)) = .ok v3 w4 ∧
        (w4.cell? ⟨w.heap.size + 1, 0, none⟩ = some v2 ∧ w4.frozen? ⟨w.heap.size + 1, 0, none⟩ = false ∧ w.heap.size + 1 < w4.heap.size ∧ ∃ a3 n3 c3, v3 = .slice a3 n3 c3) ∧
        (Ni B w.heap.size (w.heap.size + 1) c p q x w (.slice va ln vc) X2.heap.size (X2.heap.size + 1) (w.heap.size + 1 + 1) #[.int .i64 cl, .int .u8 f, .int .i64 sp, .int .i64 hs, .int .i64 a, .int .i64 le, .bool m, .bool n] (l ++ [packA cl f sp hs 0 false false, le] ++ (pre ++ [z]).map fun z => nameL q z.2.1) (w4.setCell ⟨w.heap.size + 1, 0, none⟩ v3) ∧ KeepsFrom w3.heap.size W (w4.setCell ⟨w.heap.size + 1, 0, none⟩ v3) ∧ Kps B X2.heap.size (X2.heap.size + 1) W (w4.setCell ⟨w.heap.size + 1, 0, none⟩ v3)) := fun w2 hb => by
      have hbW : Below W.heap.size W w2 := (Below.drew (Below.refl _ _)).trans hb
      have hN2 := hN.below hbW
      obtain ⟨v3, w4, a1', a2', a3'⟩ := append_w1 w2 v2 _ (nameL q z.2.1) hN2.wr (by simp; omega)
      have hg4 : Gr W w4 v2 v3 := (Gr.of_below v2 hbW).trans a3'
      have hz : w3.heap.size ≤ W.heap.size := hsz
      have h5 : w4.heap[w.heap.size + 1]? = _ := (a3'.g.block _ (blk_lt hN2.box5) (fun e => (hN2.ne _ e.symm).2.2.2.2.2 rfl)).trans hN2.box5
      obtain ⟨a3, c3, e3⟩ := a2'.form
      refine ⟨v3, w4, ⟨cell_blk hN2.box5 0, cell_blk hN2.box4 0, cell_blk hN2.cs.cell 0, cell_blk hN2.cs.cell 1, blk_lt hN2.cs.cell, blk_lt hN2.box5⟩, a1', ⟨cell_blk h5 0, frozen_blk h5 0, blk_lt h5, a3, _, c3, e3⟩, ?_⟩
      have hl3 : l ++ [packA cl f sp hs 0 false false, le] ++ (pre ++ [z]).map (fun z => nameL q z.2.1) = (l ++ [packA cl f sp hs 0 false false, le] ++ pre.map fun z => nameL q z.2.1) ++ [nameL q z.2.1] := by simp
      rw [hl3]
      exact Ni.put hN n1' n2' n7' h7W ⟨by omega, by omega, by omega, by omega, by omega, by omega⟩ (hvB2 W v2 _ hN) a2' hg4
    obtain ⟨a2, c2, e2⟩ := hN.wr.form
    obtain ⟨nn, hnn⟩ : ∃ nn, (l ++ [packA cl f sp hs 0 false false, le] ++ pre.map fun z => nameL q z.2.1).length = nn := ⟨_, rfl⟩
    rw [hnn] at e2
    have g5 := cell_blk hN.box5 0
    have g4 := cell_blk hN.box4 0
    have gc0 := cell_blk hN.cs.cell 0
    have gc1 := cell_blk hN.cs.cell 1
    have gcl := blk_lt hN.cs.cell
    have HAP := Lib.hid hap
    clear hap hnn hN n1' n2' n7' h7W
    subst e2
    simp only [cenV, numV] at gc0 gc1 hNm
    gi_wp2
    gi_region_with_o (refine ⟨trivial, ?_⟩; gi_at_call 33; refine (CallsIn.inRound l1 (callsIn_wide.2 hNm)).mono ?_; rintro e w2 ⟨rfl, hb2⟩; obtain ⟨v3, w4, ⟨g5', g4', gc0', gc1', gcl', g5l'⟩, hrun, ⟨y5, yf, yl, a3, n3, c3, hv3⟩, hfin⟩ := HAP.out w2 hb2; subst hv3; have HFIN := Lib.hid hfin; clear hfin)
    all_goals gi_wp2
    all_goals exact ⟨HFIN.out.2.1, HFIN.out.2.2, HFIN.out.1, Nat.le_trans hsz HFIN.out.2.1.size⟩
  case done =>
    rintro D xs W hD rfl hI hK
    obtain ⟨⟨v2, hN, n1', n2', n7', h7W⟩, hsz⟩ := hI
    have hmx : Try.prog.follows .mixedOrders = true := by kernel_rfl
    have hnames : (upto (slotW s hw.mem (atO o)) (nOops s (atO o))).map (fun z : Nat × Ow => nameL q z.2.1) = (oopsL s (atO o)).map (nameL q) := by simp [upto, oopsL, slotW, List.map_map]
    rw [hnames] at hN
    obtain ⟨l3, hl3⟩ : ∃ l3, l ++ [packA cl f sp hs 0 false false, le] ++ (oopsL s (atO o)).map (nameL q) = l3 := ⟨_, rfl⟩
    rw [hl3] at hN
    have HL3 := Lib.hid hl3
    have hl3b : l3.length ≤ 1099500000000 ∧ 0 < l3.length := by rw [← hl3]; simp; omega
    have hNd := hN.below (Below.drew (Below.refl _ W))
    have hRd := hrep W.drew v2 _ hNd
    have hvo : ∀ k, blk v2 = some k → own k = none := fun k e => by
      cases e2 : own k with
      | none => rfl
      | some l => exact absurd (hB k (by rw [e2]; simp)) (by have := hvB2 W v2 _ hN k e; omega)
    have hend : ∀ w2 v3, (Wr w2 v3 (l3 ++ restL s (atO o)) ∧ Gr W.drew w2 v2 v3) → w2.heap[D]? = some (.deferred (some [])) ∧ Wr (w2.putObj D (.deferred none)) v3 (l3 ++ restL s (atO o)) ∧ Gr w (w2.putObj D (.deferred none)) (.slice va ln vc) v3 := fun w2 v3 h3 => by
      obtain ⟨hr3, hg3⟩ := h3
      have hoth : ∀ k, k ≠ D → (w2.putObj D (.deferred none)).heap[k]? = w2.heap[k]? := fun k hk => World.putObj_heap_other hk
      have hD2 : w2.heap[D]? = some (.deferred (some [])) := (hg3.g.block D (blk_lt hK) (fun e => by
        obtain ⟨cs, fz, hcc⟩ := row_cells hN.wr e.symm
        rw [hcc] at hK; cases hK)).trans hK
      have ht := hNd.gr.trans hg3
      refine ⟨hD2, hr3.kept fun k e => hoth k (fun r => ?_), ⟨⟨ht.g.os, ht.g.tape, ht.g.output, by simpa using ht.g.size, fun k hk hne => (hoth k (by omega)).trans (ht.g.block k hk hne)⟩, ht.b⟩⟩
      obtain ⟨cs, fz, hcc⟩ := row_cells hr3 e
      rw [r, hD2] at hcc; cases hcc
    have hrest : restL s (atO o) = if f = 4 then (List.range (sl s (atO o))).map (fun i => s.mem (atO o + 2 + i)) else (List.range ((nBytes s (atO o) + 7) / 8)).map (byteW s (atO o)) := by unfold restL; rw [hf]
    have g71 := cell_blk h7W 1
    have g5 := cell_blk hN.box5 0
    have g4 := cell_blk hN.box4 0
    have gc0 := cell_blk hN.cs.cell 0
    have gcl := blk_lt hN.cs.cell
    have HE := Lib.hid hend
    have hs0 : W.drew.cell? ⟨w.heap.size + 1, 0, none⟩ = some v2 ∧ W.drew.cell? ⟨w.heap.size, 0, none⟩ = some (.pointer (some ⟨c, 0, none⟩)) ∧ W.drew.cell? ⟨c, 0, none⟩ = some (.pointer (some ⟨p, 0, none⟩)) ∧ c < W.drew.heap.size := ⟨g5, g4, gc0, gcl⟩
    have hs1 : ∀ w2 v3, Gr W.drew w2 v2 v3 → w2.cell? ⟨w.heap.size + 1, 0, none⟩ = some v2 ∧ w2.cell? ⟨w.heap.size, 0, none⟩ = some (.pointer (some ⟨c, 0, none⟩)) ∧ w2.cell? ⟨c, 0, none⟩ = some (.pointer (some ⟨p, 0, none⟩)) ∧ c < w2.heap.size := fun w2 v3 hg => by
      have hk : ∀ k, k < W.drew.heap.size → (k = w.heap.size + 1 ∨ k = w.heap.size ∨ k = c) → w2.heap[k]? = W.drew.heap[k]? := fun k hk hor2 => hg.g.block k hk (fun e => by
        have := hN.ne k e.symm
        rcases hor2 with r | r | r
        · exact this.2.2.2.2.2 r
        · exact this.2.2.2.2.1 r
        · exact this.1 r)
      exact ⟨(cell_of_heap (hk _ (blk_lt hN.box5) (.inl rfl)) 0).trans g5, (cell_of_heap (hk _ (blk_lt hN.box4) (.inr (.inl rfl))) 0).trans g4, (cell_of_heap (hk _ gcl (.inr (.inr rfl))) 0).trans gc0, Nat.lt_of_lt_of_le gcl hg.g.size⟩
    have HS0 := Lib.hid hs0
    have HS1 := Lib.hid hs1
    clear hs0 hs1
    by_cases hf4 : f = 4
    · subst hf4
      rw [if_pos rfl] at hrest
      have hAW := appendWords_any own W.drew p s g hRd hw v2 l3 hNd.wr hvo hl3b.1 o hor.1 hor.2 ho hf
      rw [← hrest] at hAW
      obtain ⟨a2, c2, e2⟩ := hN.wr.form
      obtain ⟨nn, hnn⟩ : ∃ nn, l3.length = nn := ⟨_, rfl⟩
      rw [hnn] at e2
      clear hend hN hNd n1' n2' n7' hvo hrest hnames hl3 hnn hl3b
      subst e2
      gi_wp2
      refine wpIn_wide.2 ?_
      go_region_held3 (fun Y => Y.cell? ⟨w.heap.size + 1, 0, none⟩ = some (.slice a2 nn c2) ∧ Y.cell? ⟨w.heap.size, 0, none⟩ = some (.pointer (some ⟨c, 0, none⟩)) ∧ Y.cell? ⟨c, 0, none⟩ = some (.pointer (some ⟨p, 0, none⟩)) ∧ c < Y.heap.size)
        (first
          | exact HS0.out
          | exact HS1.out _ _ HX.out.2)
        (first | (go_at_call 63; refine hAW.mono ?_; rintro e w2 ⟨v3, rfl, hx⟩; have HX := Lib.hid hx; clear hx))
      all_goals (first | gi_wp2 | skip)
      all_goals
        obtain ⟨r1, r2, r3⟩ := HE.out _ _ HX.out
        refine ⟨by simp, .inl ⟨_, _, rfl, run_takeDeferred r1, ?_⟩⟩
        exact ⟨_, results_tmp rfl _ _ _, v3, rfl, by rw [HL3.out]; exact r2, r3⟩
    · rw [if_neg hf4] at hrest
      have hAB := appendBytes_any own W.drew p s g hRd hw v2 l3 hNd.wr hl3b.2 hl3b.1 o hor.1 hor.2 ho
      rw [← hrest] at hAB
      have hf4' : (f == 4) = false := by simpa using hf4
      obtain ⟨a2, c2, e2⟩ := hN.wr.form
      obtain ⟨nn, hnn⟩ : ∃ nn, l3.length = nn := ⟨_, rfl⟩
      rw [hnn] at e2
      clear hend hN hNd n1' n2' n7' hvo hrest hnames hl3 hnn hl3b
      subst e2
      gi_wp2
      refine wpIn_wide.2 ?_
      go_region_held3 (fun Y => Y.cell? ⟨w.heap.size + 1, 0, none⟩ = some (.slice a2 nn c2) ∧ Y.cell? ⟨w.heap.size, 0, none⟩ = some (.pointer (some ⟨c, 0, none⟩)) ∧ Y.cell? ⟨c, 0, none⟩ = some (.pointer (some ⟨p, 0, none⟩)) ∧ c < Y.heap.size)
        (first
          | exact HS0.out
          | exact HS1.out _ _ HX.out.2)
        (first | (go_at_call 64; refine hAB.mono ?_; rintro e w2 ⟨v3, rfl, hx⟩; have HX := Lib.hid hx; clear hx))
      all_goals (first | gi_wp2 | skip)
      all_goals
        obtain ⟨r1, r2, r3⟩ := HE.out _ _ HX.out
        refine ⟨by simp, .inl ⟨_, _, rfl, run_takeDeferred r1, ?_⟩⟩
        exact ⟨_, results_tmp rfl _ _ _, v3, rfl, by rw [HL3.out]; exact r2, r3⟩
  case stop =>
    rintro D cc pre W _ _ hh _
    exact hh.elim
end Go.Proofs.Ytklbgccfcfldaaa.Wk
