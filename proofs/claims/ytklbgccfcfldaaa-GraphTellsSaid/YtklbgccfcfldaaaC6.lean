/- create: an object is made in eden, in the future space or in old. -/
import Derived.Test.YtklbgccfcfldaaaC5
set_option linter.unusedVariables false
namespace Go.Proofs.Ytklbgccfcfldaaa.Wk
open Go.ChangeShapes Go.WideShapes Go.ChangeAt Go.RowKit M

theorem isFilled_y (i : Nat) (hi : i = 1 ∨ i = 3 ∨ i = 4) (w : World) :
    Calls Try.prog 43 #[.int .u8 i] w fun e w' => e = .returned (.bool true) ∧ w = w' := by
  rcases hi with rfl | rfl | rfl
  all_goals
    go_enter Try.func43, Try.ntmps43
    go_wp2
    go_ret
    exact ⟨rfl, rfl⟩

/-- The slots that were filled so far. -/
def fillTo (s1 : Hp) (o j : Nat) (v : Int) : Hp := { s1 with mem := fun x => if o ≤ x ∧ x < o + j then v else s1.mem x }
theorem fillTo_succ (s1 : Hp) (o j : Nat) (v : Int) : { fillTo s1 o j v with mem := upd (fillTo s1 o j v).mem (o + j) v } = fillTo s1 o (j + 1) v := by
  unfold fillTo
  simp only
  congr 1
  funext x
  unfold upd
  by_cases e : x = o + j
  · rw [if_pos e, if_pos (by omega)]
  · show (if x = o + j then v else if o ≤ x ∧ x < o + j then v else s1.mem x) = _
    by_cases e2 : o ≤ x ∧ x < o + j
    · rw [if_neg e, if_pos e2, if_pos (by omega)]
    · rw [if_neg e, if_neg e2, if_neg (by omega)]
theorem fillTo_0 (s1 : Hp) (o : Nat) (v : Int) : fillTo s1 o 0 v = s1 := by
  unfold fillTo
  have : (fun x => if o ≤ x ∧ x < o + 0 then v else s1.mem x) = s1.mem := by funext x; rw [if_neg (by omega)]
  rw [this]

set_option maxHeartbeats 4000000 in
set_option maxRecDepth 100000 in
theorem create_fit (own : Own) (w : World) (p : Nat) (s : Hp) (g : Gh) (h : Rep own w p s g) (i : Nat) (hi : i = 1 ∨ i = 3 ∨ i = 4) (c f sp : Int) (k lit : Nat) (hl : lit ≤ 65536) (hh : hdB c f sp 0 0 k = true)
    (hfit : Fit s i (packA c f sp 0 0 false false) k lit) (hny : i = 4 → isYoung (createS s i (packA c f sp 0 0 false false) k lit) (s.spec.getD 0 0) = false) :
    Calls Try.prog 23 #[.pointer (some ⟨p, 0, none⟩), .int .u8 i, hdV c f sp 0 0 k false false, .int .i64 lit] w fun e w' =>
      e = .returned (.tuple #[.int .u64 (8 * ((s.ar i).t : Int)), .int .i64 0]) ∧ Rep own w' p (createS s i (packA c f sp 0 0 false false) k lit) g ∧ Fr p own w own w' noE := by
  have hn := h.w0.n
  have har := hfit.wf.ar i hfit.i1 hfit.i5
  have hroom := hfit.room
  have hhv := (hdB_iff _ _ _ _ _ _).1 hh
  have hk64 : k ≤ 65536 := by omega
  obtain ⟨u1, u2, u3, u4, u5, u6, u7⟩ := u_pack c f sp 0 0 false false (by omega) (by omega) (by omega) (by omega) (by omega) (by omega) (by omega) (by omega) (by omega) (by omega)
  have hm := hfit.m
  rw [u2, u3] at hm
  have hmade := made_at hfit
  have hmw := made_wf hfit
  have hcw := create_wf hfit
  have hno := nOf_le hfit
  have hsp0 : 0 ≤ s.spec.getD 0 0 ∧ s.spec.getD 0 0 ≤ 18446744073709551615 := by
    refine h.w0.roots _ ?_
    have := h.w0.spec
    simp only [List.mem_append]
    refine .inl (.inl (.inl ?_))
    rw [List.getD_eq_getElem?_getD, List.getElem?_eq_getElem (by omega)]
    exact List.getElem_mem _
  have hyng : isYoung (createS s i (packA c f sp 0 0 false false) k lit) (s.spec.getD 0 0) = false ∨ (isOb (createS s i (packA c f sp 0 0 false false) k lit) (8 * ((s.ar i).t : Int)) = true ∧ isYoung (createS s i (packA c f sp 0 0 false false) k lit) (8 * ((s.ar i).t : Int)) = true) := by
    by_cases e : i = 4
    · exact .inl (hny e)
    · exact .inr (create_young hfit (by omega))
  -- the state, by pieces
  obtain ⟨t, ht⟩ : ∃ t, (s.ar i).t = t := ⟨_, rfl⟩
  obtain ⟨v, hv⟩ : ∃ v, packA c f sp 0 0 false false = v := ⟨_, rfl⟩
  obtain ⟨W, hW⟩ : ∃ W, W = w.alloc (.cells #[.int .i64 c, .int .u8 f, .int .i64 sp, .int .i64 0, .int .i64 0, .int .i64 k, .bool false, .bool false] 78) := ⟨_, rfl⟩
  have hB : Below w.heap.size w W := by rw [hW]; exact (Below.refl _ _).alloc (Nat.le_refl _) _
  have HOW := Lib.hid h.owns
  have HP := Lib.hid (fun X => pack_y c f sp 0 0 k false false X hh)
  have HCL := Lib.hid (fun X (b : Below W.heap.size W X) => claim_any own X p s g ((h.below hB (Nat.le_refl _)).below b (Nat.le_refl _)) hfit.wf i hfit.i1 (by omega) c f sp 0 0 k false false hk64)
  have HPU := Lib.hid (fun X (r : Rep own X p (topS s i ((s.ar i).t + 2 + k)) g) => put_any own X p _ g r (s.ar i).t k (by omega) (by show _ ≤ s.n; omega) c f sp 0 0 lit false false hh (by omega) (fun e => by have := (hm e).1; omega))
  have HCH := Lib.hid (fun X (r : Rep own X p (madeS s i v k lit) g) => changeable_any own X p (madeS s i v k lit) g r (by rw [← hv]; exact hmw) (s.ar i).t (by rw [← hv]; exact hmade.1))
  have HNR := Lib.hid (fun X (r : Rep own X p (createS s i v k lit) g) => noteRef_no own X p (createS s i v k lit) g r (by rw [← hv]; exact hcw) (8 * ((s.ar i).t : Int)) (s.spec.getD 0 0) (by omega) (by omega) hsp0.1 hsp0.2 (by rw [← hv]; exact hyng))
  have hch : chA g (madeS s i v k lit) (s.ar i).t = if nOf f k lit - cOf f = 0 then slA g (s.ar i).t k else some ⟨g.wb, (s.ar i).t + 2 + cOf f, none⟩ := by
    rw [hv] at hmade
    unfold chA
    rw [hmade.2.2.2.1, hmade.2.2.2.2, hmade.2.2.1, ← hv, u2]
  have hcl1 : (madeS s i v k lit).mem (s.ar i).t = v := by rw [hv] at hmade; exact hmade.2.1
  have hcl2 : sl (madeS s i v k lit) (s.ar i).t = k := by rw [hv] at hmade; exact hmade.2.2.1
  have hcl3 : nOops (madeS s i v k lit) (s.ar i).t = nOf f k lit := by rw [hv] at hmade; rw [hmade.2.2.2.1, ← hv, u2]
  have hcl4 : chg (madeS s i v k lit) (s.ar i).t = cOf f := by rw [hv] at hmade; rw [hmade.2.2.2.2, ← hv, u2]
  rw [hcl1, hcl2, hcl3, hcl4, hch] at HCH
  have hcc : createS s i v k lit = fillTo (madeS s i v k lit) ((s.ar i).t + 2 + cOf f) (nOf f k lit - cOf f) (s.spec.getD 0 0) := by
    have hcn : cOf f ≤ nOf f k lit := by
      unfold cOf nOf
      by_cases e : f = 6
      · rw [if_pos e, if_pos e]; simp [e]
      · rw [if_neg e]; omega
    unfold createS fillTo
    simp only
    rw [← hv, u2]
    have e : (s.ar i).t + 2 + cOf f + (nOf f k lit - cOf f) = (s.ar i).t + 2 + nOf f k lit := by omega
    rw [e]
  have hmspec : (madeS s i v k lit).spec = s.spec := rfl
  have hmn : (madeS s i v k lit).n = s.n := rfl
  rw [hv] at HPU hmw hno ⊢
  have hno' : nOf f k lit ≤ k := by rw [← hv, u2] at hno; exact hno
  rw [show putS (topS s i ((s.ar i).t + 2 + k)) (s.ar i).t v k lit = madeS s i v k lit from rfl] at HPU
  have HFW : Hid (Fr p own w own W noE) := Lib.hid (Fr.of_below hB (Nat.le_refl _) _)
  have hfz : cOf f + (nOf f k lit - cOf f) ≤ k ∨ nOf f k lit - cOf f = 0 := by omega
  rw [hcc] at HNR ⊢
  rw [ht] at har hroom HPU HCH HNR HCL ⊢
  clear hfit hny hyng hmade hcw hcc hm h hB hh hhv hmw hno hch hcl1 hcl2 hcl3 hcl4 hv u1 u2 u3 u4 u5 u6 u7
  generalize nOf f k lit - cOf f = n' at *
  generalize cOf f = cf at *
  obtain ⟨nt, hnt⟩ : ∃ nt, s.spec.getD 0 0 = nt := ⟨_, rfl⟩
  rw [hnt] at HNR hsp0 ⊢
  have HSN := Lib.hid hnt
  clear hnt
  obtain ⟨sa, hsa⟩ : ∃ sa, slA g t k = sa := ⟨_, rfl⟩
  simp only [objV] at HPU HCH
  rw [hsa] at HPU HCH
  obtain ⟨la, hla⟩ : ∃ la, (if n' = 0 then sa else some (⟨g.wb, t + 2 + cf, none⟩ : Addr)) = la := ⟨_, rfl⟩
  rw [hla] at HCH
  have HLA : Hid (0 < n' → la = some ⟨g.wb, t + 2 + cf, none⟩) := Lib.hid (fun q => by rw [← hla, if_neg (by omega)])
  clear hla hsa
  obtain ⟨s1, hs1⟩ : ∃ s1, madeS s i v k lit = s1 := ⟨_, rfl⟩
  rw [hs1] at HPU HCH HNR hmspec hmn ⊢
  clear hs1 hno' hk64
  have HFI := Lib.hid (isFilled_y i hi)
  clear hi
  have hadr := fun X => address_any t X (by omega) (by omega)
  have HAD := Lib.hid hadr
  clear hadr
  go_enter Try.func23, Try.ntmps23
  go_wp2_with (first
    | (go_at_call 43; rw [← hW]; refine (HFI.out _).mono ?_; rintro e w1 ⟨rfl, hw1⟩; subst hw1; have B1 : Hid (Below W.heap.size W W) := Lib.hid (Below.refl _ _); obtain ⟨y0, y1, y2, y3, y4, y5, y6, y7, yf⟩ := box8 (keep_box hW (Below.refl _ _)))
    | (go_at_call 44; rw [← hW]; refine (HCL.out _ B1.out).mono ?_; rintro e w2 ⟨hq1, -⟩; obtain ⟨rfl, hr2, hf2⟩ := hq1 hroom
       have HR2 := Lib.hid hr2
       have HF2 := Lib.hid ((Fr.of_below B1.out (Nat.le_refl _) noE).trans hf2)
       obtain ⟨x0, x1, x2, x3, x4, x5, x6, x7, xf⟩ := box8 ((HF2.out.kept w.heap.size (by rw [hW]; simp) (fun l e => by rw [owns_none HOW.out (Nat.le_refl _)] at e; cases e) (fun q => q)).trans (keep_box hW (Below.refl _ _)))
       clear hq1 hr2 hf2)
    | (go_at_call 45; refine (HPU.out _ HR2.out).mono ?_; rintro e w3 ⟨rfl, hr3, hf3⟩
       have HR3 := Lib.hid (hr3.below ((Below.refl w3.heap.size w3).alloc (Nat.le_refl _) (.cells #[.int .i64 t, .int .i64 (uC v), .int .u8 (uF v), .int .i64 (uS v), .int .i64 (uH v), .int .i64 (uA v), .int .i64 k, .bool (uM v), .bool (uN v), .slice sa k k] 83)) (Nat.le_refl _))
       have HF3 := Lib.hid ((HF2.out.trans hf3).trans (fr_alloc w3 (.cells #[.int .i64 t, .int .i64 (uC v), .int .u8 (uF v), .int .i64 (uS v), .int .i64 (uH v), .int .i64 (uA v), .int .i64 k, .bool (uM v), .bool (uN v), .slice sa k k] 83)))
       have hspc := HR3.out.special 0 (by omega)
       rw [hmspec, HSN.out] at hspc
       clear hr3 hf3)
    | (go_at_call 46; refine (HCH.out _ HR3.out).mono ?_; rintro e w4 ⟨rfl, b4⟩
       have HR4 := Lib.hid (HR3.out.below b4 (Nat.le_refl _))
       have HF4 := Lib.hid (HF3.out.trans (Fr.of_below b4 (Nat.le_refl _) noE))
       clear b4))
  go_loopw [44] (fun v wr => ∃ j : Nat, j ≤ n' ∧ v = .int .i64 j ∧ Rep own wr p (fillTo s1 (t + 2 + cf) j nt) g ∧ Fr p own W own wr noE) (fun v _ => n' - (intOf v).toNat)
  case atStart => exact ⟨0, Nat.zero_le _, rfl, by rw [fillTo_0]; exact HR4.out, HF4.out⟩
  case round =>
    obtain ⟨j, hj, rfl, hr, hf⟩ := hrel
    have HR := Lib.hid hr
    have HF := Lib.hid hf
    clear hr hf
    by_cases hjn : j < n'
    · have hla := HLA.out (by omega)
      subst hla
      have i1 : (j : Int) < n' := by omega
      have cc := HR.out.word (t + 2 + cf + j) (by show _ < s1.n; omega)
      have fz := frozen_blk HR.out.wcell (t + 2 + cf + j)
      go_wp2
      go_roundw
      case rel =>
        obtain ⟨r2, f2⟩ := HR.out.setW (t + 2 + cf + j) nt (by show _ < s1.n; omega) hsp0
        rw [fillTo_succ] at r2
        exact ⟨j + 1, by omega, by go_num, r2, HF.out.trans f2⟩
      case measure => simp [intOf]; omega
    · have hje : j = n' := by omega
      subst hje
      go_wp2_with (first
        | (go_at_call 47; refine (HAD.out _).mono ?_; rintro e w5 ⟨rfl, rfl⟩)
        | (go_at_call 28; refine (HNR.out _ HR.out).mono ?_; rintro e w6 ⟨rfl, b6⟩))
      all_goals go_ret2
      all_goals first
        | exact ⟨rfl, HR.out.below b6 (Nat.le_refl _), (HFW.out.trans HF.out).trans (Fr.of_below b6 (Nat.le_refl _) noE)⟩
        | exact ⟨rfl, HR.out, HFW.out.trans HF.out⟩
end Go.Proofs.Ytklbgccfcfldaaa.Wk
