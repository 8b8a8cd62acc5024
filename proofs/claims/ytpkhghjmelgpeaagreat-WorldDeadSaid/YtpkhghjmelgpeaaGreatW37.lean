/- works: the chapter's examples. -/
import Derived.Test.YtpkhghjmelgpeaaGreatW36
import Derived.Test.YtpkhghjmelgpeaaGreatM5
set_option linter.unusedVariables false
namespace Go.Proofs.YtpkhghjmelgpeaaGreat.Wk
open Go.ChangeShapes Go.WideShapes Go.ChangeAt Go.RowKit M Go.Maps Go.Proofs

theorem Ops.got {own : Own} {w : World} {p : Nat} {s : St} {d : Dd} {act : St → Ch → Dd → St × Dd} {v : Dd → Value} {e : Ending} {w' : World} (h : Ops own w p s d act v e w') {s' : St} {d' : Dd} (hp : perform s d act = (s', d')) (u : Value) (hu : v d' = u) :
    ∃ own' g', e = .returned u ∧ Rep own' w' p s' g' ∧ Fr own w own' w' noE := by
  obtain ⟨own', g', h1, h2, h3⟩ := Ops.known h hp
  exact ⟨own', g', by rw [h1, hu], h2, h3⟩
theorem row_get {w : World} {e : TypeId} {size n : Nat} {v : Value} {xs : List Value} (h : Row w e size v n xs) (hn : 0 < n) : ∃ g c, v = .slice (some ⟨g, 0, none⟩) n c ∧ blk v = some g ∧ ∀ j u, xs[j]? = some u → w.cell? ⟨g, j, none⟩ = some u := by
  obtain ⟨a, c, rfl, h1, h2⟩ := h.cells
  obtain ⟨g, rfl, hb⟩ := h1 hn
  refine ⟨g, c, rfl, hb, fun j u hj => ?_⟩
  obtain ⟨g', e1, e2⟩ := h2 j u hj
  cases e1; exact e2
theorem eqDd (w : World) : (binOp .eql 82 (.agg #[.int .u8 2, .int .i64 1, .string ⟨#[120, 121]⟩, .string ⟨#[]⟩, .int .i64 2, .int .i64 0]) (.agg #[.int .u8 2, .int .i64 1, .string ⟨#[120, 121]⟩, .string ⟨#[]⟩, .int .i64 2, .int .i64 0])).run Tryz.prog w = .ok (.bool true) w := by kernel_rfl

set_option maxHeartbeats 16000000 in
set_option maxRecDepth 100000 in
theorem works_any (w : World) : Calls Tryz.prog 6 #[] w fun e w' => e = .returned (.bool true) ∧ Below w.heap.size w w' := by
  obtain ⟨W0, hW0⟩ : ∃ W0, W0 = w.alloc (.cells #[.string ⟨#[97]⟩, .string ⟨#[120, 121, 122]⟩] 74) := ⟨_, rfl⟩
  have hB0 : Below w.heap.size w W0 := by rw [hW0]; exact (Below.refl _ _).alloc (Nat.le_refl _) _
  have hFl : FlS W0 (.slice (some ⟨w.heap.size, 0, none⟩) 1 1) [(Ex.sa, Ex.sxyz)] := by
    refine ⟨_, _, rfl, fun k x hx => ?_⟩
    have hb : W0.heap[w.heap.size]? = some (.cells #[.string ⟨#[97]⟩, .string ⟨#[120, 121, 122]⟩] 74 (0, 0)) := by rw [hW0]; exact heap_alloc_new w _
    cases k with
    | zero => simp at hx; subst hx; exact ⟨_, _, rfl, cell_blk hb 0, cell_blk hb 1⟩
    | succ k => simp at hx
  have HN0 := Lib.hid (new_any (.slice none 0 0) _ [] _ W0 (Row.nil W0 63 3).rd (by decide) hFl (by decide) (by intro x hx; simp at hx; subst hx; decide))
  have HW0 := Lib.hid hW0
  have HB0 := Lib.hid hB0
  clear hW0 hB0 hFl
  go_enter Tryz.func6, Tryz.ntmps6
  go_wp2_with fail
  rw [← HW0.out]
  refine HN0.out.mono ?_
  rw [Ex.e0]
  rintro e w1 ⟨p, own1, g1, rfl, hR1, hO1, hB1⟩
  have HR1 := Lib.hid hR1
  have HO1 := Lib.hid hO1
  have HB1 := Lib.hid hB1
  clear hR1 hO1 hB1
  go_wp2_with fail
  refine (open_any own1 w1 p Ex.S0 g1 Ex.sa 1 HR1.out (by decide) (by decide) (by decide) (by decide)).mono ?_
  rintro e w2 hq
  obtain ⟨own2, g2, rfl, hR2, hF2⟩ := Ops.got hq Ex.e1 (.tuple #[.int .i64 1, .int .i64 0]) rfl
  have HR2 := Lib.hid hR2
  have HF2 := Lib.hid hF2
  clear hq hR2 hF2
  go_wp2_with fail
  refine (read_any own2 w2 p Ex.S1 g2 1 2 HR2.out (by decide) (by decide) (by decide)).mono ?_
  rintro e w3 hq
  obtain ⟨own3, g3, rfl, hR3, hF3⟩ := Ops.got hq Ex.e2 (.tuple #[.string ⟨#[120, 121]⟩, .int .i64 0]) rfl
  have HR3 := Lib.hid hR3
  have HF3 := Lib.hid (HF2.out.trans hF3)
  clear hq hR3 hF3
  go_wp2_with fail
  refine (write_any own3 w3 p Ex.S2 g3 1 Ex.sq HR3.out (by decide) (by decide) (by decide) (by decide)).mono ?_
  rintro e w4 hq
  obtain ⟨own4, g4, rfl, hR4, hF4⟩ := Ops.got hq Ex.e3 (.int .i64 33) rfl
  have HR4 := Lib.hid hR4
  have HF4 := Lib.hid (HF3.out.trans hF4)
  clear hq hR4 hF4
  go_wp2_with fail
  refine (open_any own4 w4 p Ex.S3 g4 Ex.sa 2 HR4.out (by decide) (by decide) (by decide) (by decide)).mono ?_
  rintro e w5 hq
  obtain ⟨own5, g5, rfl, hR5, hF5⟩ := Ops.got hq Ex.e4 (.tuple #[.int .i64 2, .int .i64 0]) rfl
  have HR5 := Lib.hid hR5
  have HF5 := Lib.hid (HF4.out.trans hF5)
  clear hq hR5 hF5
  go_wp2_with fail
  refine (write_any own5 w5 p Ex.S4 g5 2 Ex.snew HR5.out (by decide) (by decide) (by decide) (by decide)).mono ?_
  rintro e w6 hq
  obtain ⟨own6, g6, rfl, hR6, hF6⟩ := Ops.got hq Ex.e5 (.int .i64 0) rfl
  have HR6 := Lib.hid hR6
  have HF6 := Lib.hid (HF5.out.trans hF6)
  have HB6 : Hid (Below w.heap.size w w6) := Lib.hid (HB0.out.trans ((HB1.out.trans (HF6.out.below (Nat.le_trans HB1.out.size (Nat.le_refl _)) HO1.out)).mono HB0.out.size))
  clear hq hR6 hF6 HR1 HR2 HR3 HR4 HR5 HF2 HF3 HF4 HF5 HF6 HB0 HB1 HO1
  go_wp2_with fail
  refine (left_any own6 w6 p Ex.S5 g6 HR6.out (by decide) 2 (by decide) none 0 [] (Row.nil w6 63 3).rd (Nat.le_refl _)).mono ?_
  rintro e w7 ⟨px, ownx, gx, ix, rfl, hix, hRx, hOx, hBx⟩
  rw [Ex.left2 _ _ hix] at hRx
  have HR7 := Lib.hid (HR6.out.below hBx (Nat.le_refl _))
  have HRX := Lib.hid hRx
  have HB7 : Hid (Below w.heap.size w w7) := Lib.hid (HB6.out.trans (hBx.mono HB6.out.size))
  clear hRx hOx hBx hix HR6 HB6
  go_wp2_with fail
  refine (left_any own6 w7 p Ex.S5 g6 HR7.out (by decide) 0 (by decide) none 0 [] (Row.nil w7 63 3).rd (Nat.le_refl _)).mono ?_
  rintro e w8 ⟨py, owny, gy, iy, rfl, hiy, hRy, hOy, hBy⟩
  rw [Ex.left0 _ _ hiy] at hRy
  have HR8 := Lib.hid (HR7.out.below hBy (Nat.le_refl _))
  have HRX8 := Lib.hid (HRX.out.below hBy (Nat.le_refl _))
  have HRY := Lib.hid hRy
  have HB8 : Hid (Below w.heap.size w w8) := Lib.hid (HB7.out.trans (hBy.mono HB7.out.size))
  clear hRy hOy hBy hiy HR7 HRX HB7
  go_wp2_with fail
  refine (files_any ownx w8 px _ gx HRX8.out).mono ?_
  rw [Ex.files2]
  rintro e w9 ⟨vx, rfl, hr9, hb9, hk9⟩
  obtain ⟨bx, cx, rfl, hbx, hcx⟩ := row_get hr9 (by decide)
  have x1 : w9.cell? ⟨bx, 1, none⟩ = some (.string ⟨#[110, 101, 119]⟩) := hcx 1 _ rfl
  have hxl : bx < w9.heap.size := hr9.lt _ hbx
  have HR9 := Lib.hid (HR8.out.below hb9 (Nat.le_refl _))
  have HRY9 := Lib.hid (HRY.out.below hb9 (Nat.le_refl _))
  have HB9 : Hid (Below w.heap.size w w9) := Lib.hid (HB8.out.trans (hb9.mono HB8.out.size))
  have HX1 := Lib.hid x1
  clear hr9 hb9 hk9 hbx hcx x1 HR8 HRX8 HRY HB8
  go_wp2_with fail
  refine (files_any owny w9 py _ gy HRY9.out).mono ?_
  rw [Ex.files2]
  rintro e w10 ⟨vy, rfl, hr10, hb10, hk10⟩
  obtain ⟨by_, cy, rfl, hby, hcy⟩ := row_get hr10 (by decide)
  have y1 : w10.cell? ⟨by_, 1, none⟩ = some (.string ⟨#[120, 121, 122]⟩) := hcy 1 _ rfl
  have hyl : by_ < w10.heap.size := hr10.lt _ hby
  have HR10 := Lib.hid (HR9.out.below hb10 (Nat.le_refl _))
  have HB10 : Hid (Below w.heap.size w w10) := Lib.hid (HB9.out.trans (hb10.mono HB9.out.size))
  have HX1' := Lib.hid ((hb10.cell (p := ⟨bx, 1, none⟩) hxl).trans HX1.out)
  have hxl' : bx < w10.heap.size := Nat.lt_of_lt_of_le hxl hb10.size
  have HY1 := Lib.hid y1
  clear hr10 hb10 hk10 hby hcy y1 HR9 HRY9 HB9 hxl HX1
  go_wp2_with fail
  refine (trace_any own6 w10 p _ g6 HR10.out (by decide)).mono ?_
  rintro e w11 ⟨vd, rfl, hr11, hb11, hk11⟩
  obtain ⟨bd, cd, rfl, hbd, hcd⟩ := row_get hr11 (by decide)
  have HD : Hid (w11.cell? ⟨bd, 6, none⟩ = some (.int .u8 2) ∧ w11.cell? ⟨bd, 7, none⟩ = some (.int .i64 1) ∧ w11.cell? ⟨bd, 8, none⟩ = some (.string ⟨#[120, 121]⟩) ∧ w11.cell? ⟨bd, 9, none⟩ = some (.string ⟨#[]⟩) ∧ w11.cell? ⟨bd, 10, none⟩ = some (.int .i64 2) ∧ w11.cell? ⟨bd, 11, none⟩ = some (.int .i64 0)) :=
    Lib.hid ⟨hcd 6 _ rfl, hcd 7 _ rfl, hcd 8 _ rfl, hcd 9 _ rfl, hcd 10 _ rfl, hcd 11 _ rfl⟩
  have hdl : bd < w11.heap.size := hr11.lt _ hbd
  have HB11 : Hid (Below w.heap.size w w11) := Lib.hid (HB10.out.trans (hb11.mono HB10.out.size))
  have HX11 := Lib.hid ((hb11.cell (p := ⟨bx, 1, none⟩) hxl').trans HX1'.out)
  have HY11 := Lib.hid ((hb11.cell (p := ⟨by_, 1, none⟩) hyl).trans HY1.out)
  have hxl2 : bx < w11.heap.size := Nat.lt_of_lt_of_le hxl' hb11.size
  have hyl2 : by_ < w11.heap.size := Nat.lt_of_lt_of_le hyl hb11.size
  rw [show Ex.S5.told.length = 5 from rfl]
  clear hr11 hb11 hk11 hbd hcd HR10 HB10 hxl' hyl HX1' HY1
  obtain ⟨W1, hW1⟩ : ∃ W1, W1 = w11.alloc (.cells #[.int .u8 7, .int .i64 0, .string ⟨#[]⟩, .int .u8 5, .int .i64 0, .string ⟨#[]⟩] 63) := ⟨_, rfl⟩
  have hB12 : Below w11.heap.size w11 W1 := by rw [hW1]; exact (Below.refl _ _).alloc (Nat.le_refl _) _
  have hCh : Rd W1 3 (.slice (some ⟨w11.heap.size, 0, none⟩) 2 2) 2 (([⟨7, 0, noS⟩, ⟨5, 0, noS⟩] : List Ch).flatMap chcells) := by
    refine ⟨_, _, rfl, rfl, fun j u hj => ⟨_, rfl, ?_⟩⟩
    have hb : W1.heap[w11.heap.size]? = some (.cells #[.int .u8 7, .int .i64 0, .string ⟨#[]⟩, .int .u8 5, .int .i64 0, .string ⟨#[]⟩] 63 (0, 0)) := by rw [hW1]; exact heap_alloc_new w11 _
    rw [add_0, cell_blk hb j, ← hj]
    rw [← Array.getElem?_toList]; rfl
  have HN1 := Lib.hid (new_any (.slice (some ⟨w11.heap.size, 0, none⟩) 2 2) (.slice none 0 0) [⟨7, 0, noS⟩, ⟨5, 0, noS⟩] [] W1 hCh (by decide) ⟨none, 0, rfl, fun k x hx => by simp at hx⟩ (by decide) (by intro x hx; cases hx))
  have HW1 := Lib.hid hW1
  have HB12 := Lib.hid hB12
  clear hW1 hB12 hCh
  go_wp2_with fail
  rw [← HW1.out]
  refine HN1.out.mono ?_
  rw [Ex.g0]
  rintro e w12 ⟨q, ownq, gq, rfl, hRq, hOq, hBq⟩
  have HRQ := Lib.hid hRq
  have HOQ := Lib.hid hOq
  have HBQ := Lib.hid hBq
  clear hRq hOq hBq HN1
  go_wp2_with fail
  refine (show_any ownq w12 q Ex.C0 gq Ex.s1 HRQ.out (by decide)).mono ?_
  rintro e w13 hq
  obtain ⟨own13, g13, rfl, hR13, hF13⟩ := Ops.got hq Ex.g1 (.int .i64 0) rfl
  have HR13 := Lib.hid hR13
  have HF13 := Lib.hid hF13
  clear hq hR13 hF13
  go_wp2_with fail
  refine (show_any own13 w13 q Ex.C1 g13 Ex.s2 HR13.out (by decide)).mono ?_
  rintro e w14 hq
  obtain ⟨own14, g14, rfl, hR14, hF14⟩ := Ops.got hq Ex.g2 (.int .i64 36) rfl
  have HR14 := Lib.hid hR14
  have HF14 := Lib.hid (HF13.out.trans hF14)
  clear hq hR14 hF14 HF13
  go_wp2_with fail
  refine (dead_any own14 w14 q Ex.C2 g14 HR14.out).mono ?_
  rintro e w' ⟨rfl, rfl⟩
  rw [show Ex.C2.dead = true from rfl]
  have HBE : Hid (Below w11.heap.size w11 w14) := Lib.hid (HB12.out.trans ((HBQ.out.trans (HF14.out.below HBQ.out.size HOQ.out)).mono HB12.out.size))
  have xc := (HBE.out.cell (p := ⟨bx, 1, none⟩) hxl2).trans HX11.out
  have yc := (HBE.out.cell (p := ⟨by_, 1, none⟩) hyl2).trans HY11.out
  have dc := fun j => HBE.out.cell (p := ⟨bd, j, none⟩) hdl
  obtain ⟨d6, d7, d8, d9, d10, d11⟩ := HD.out
  have z6 := (dc 6).trans d6
  have z7 := (dc 7).trans d7
  have z8 := (dc 8).trans d8
  have z9 := (dc 9).trans d9
  have z10 := (dc 10).trans d10
  have z11 := (dc 11).trans d11
  clear d6 d7 d8 d9 d10 d11 dc
  have hE := eqDd w14
  go_wp2
  go_ret
  exact ⟨rfl, HB11.out.trans (HBE.out.mono HB11.out.size)⟩
end Go.Proofs.YtpkhghjmelgpeaaGreat.Wk
