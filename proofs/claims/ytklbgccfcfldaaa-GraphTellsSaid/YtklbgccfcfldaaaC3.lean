/- put: an object is made of words that were claimed. -/
import Derived.Test.YtklbgccfcfldaaaC2
set_option linter.unusedVariables false
namespace Go.Proofs.Ytklbgccfcfldaaa.Wk
open Go.ChangeShapes Go.WideShapes Go.ChangeAt Go.RowKit M

theorem Hp.mem_ext {s : Hp} {m m' : Nat → Int} (h : ∀ j, m j = m' j) : { s with mem := m } = { s with mem := m' } := by
  have : m = m' := funext h
  rw [this]
/-- Words of the memory are stored, one value in all of them. -/
theorem Rep.fill {own : Own} {p : Nat} {g : Gh} {v : Int} (hv : 0 ≤ v ∧ v ≤ 18446744073709551615) : ∀ (n o : Nat) {w : World} {s : Hp}, Rep own w p s g → o + n ≤ s.n →
    Rep own (w.setCells g.wb o (List.replicate n (.int .u64 v))) p { s with mem := fun j => if o ≤ j ∧ j < o + n then v else s.mem j } g ∧ Fr p own w own (w.setCells g.wb o (List.replicate n (.int .u64 v))) noE
  | 0, o, w, s, h, _ => by
    refine ⟨?_, Fr.refl _ _ _ _⟩
    have : ({ s with mem := fun j => if o ≤ j ∧ j < o + 0 then v else s.mem j } : Hp) = s := by
      have e : (fun j => if o ≤ j ∧ j < o + 0 then v else s.mem j) = s.mem := by funext j; rw [if_neg (by omega)]
      rw [e]
    rw [this]; exact h
  | n + 1, o, w, s, h, hn => by
    obtain ⟨r1, f1⟩ := h.setW o v (by omega) hv
    obtain ⟨r2, f2⟩ := Rep.fill hv n (o + 1) r1 (by show o + 1 + n ≤ s.n; omega)
    refine ⟨?_, f1.trans f2⟩
    have e : (fun j => if o + 1 ≤ j ∧ j < o + 1 + n then v else upd s.mem o v j) = fun j => if o ≤ j ∧ j < o + (n + 1) then v else s.mem j := by
      funext j
      unfold upd
      by_cases q : j = o
      · rw [if_neg (by omega), if_pos q, if_pos (by omega)]
      · by_cases q2 : o + 1 ≤ j ∧ j < o + 1 + n
        · rw [if_pos q2, if_pos (by omega)]
        · rw [if_neg q2, if_neg q, if_neg (by omega)]
    have e2 : ({ { s with mem := upd s.mem o v } with mem := fun j => if o + 1 ≤ j ∧ j < o + 1 + n then v else upd s.mem o v j } : Hp) = { s with mem := fun j => if o ≤ j ∧ j < o + (n + 1) then v else s.mem j } := by rw [e]
    simp only at r2
    rw [e] at r2
    exact r2

theorem info32 : (Try.prog.info? 32).map (fun i => (i.zero, i.size, i.bytes)) = some (some (.int .u64 0), 1, 8) := by kernel_rfl
theorem run_clear {w : World} {own : Own} {p : Nat} {s : Hp} {g : Gh} (h : Rep own w p s g) (a k : Nat) (ha : a + 2 + k ≤ s.n) (ty : TypeId) :
    (Builtin.clear_ #[42] ty #[.slice (slA g a k) k k]).run Try.prog w = .ok (.tuple #[]) (w.setCells g.wb (a + 2) (List.replicate k (.int .u64 0))) := by
  obtain ⟨i0, hi, hz0, hz1, hz2⟩ := info_parts info32
  by_cases hk : k = 0
  · subst hk
    simp [Builtin.clear_, run_underlying Try.underlying42, World.setCells, slA]
  · have hst := run_storeCells_cells (P := Try.prog) g.wb (a + 2) (List.replicate k (Value.int .u64 0)) 0 w
      (fun j hj => by simp at hj; rw [h.word _ (by omega)]; rfl) (fun j hj => frozen_blk h.wcell _) (by intro u hu; rw [List.eq_of_mem_replicate hu]; rfl)
    obtain ⟨k', rfl⟩ : ∃ k', k = k' + 1 := ⟨k - 1, by omega⟩
    have hz : (Builtin.zeroCells #[.int .u64 0] (k' + 1)).toList = List.replicate (k' + 1) (Value.int .u64 0) := by
      simp [Builtin.zeroCells, Nat.mod_one]
      rw [List.eq_replicate_iff]; simp
    simp only [Nat.add_zero] at hst
    simp [Builtin.clear_, run_underlying Try.underlying42, slA, zeroValue, typeInfo, hi, hz0, Value.cells, hz]
    simpa using congrArg (fun r => Result.andThen r fun _ w' => Result.ok (Value.tuple #[]) w') hst

theorem put_eq {s s2 : Hp} {at_ k : Nat} {v lit : Int} (h : s2 = { hdS s at_ v k with st := upd (hdS s at_ v k).st at_ true }) (hf : ¬ uF v = 6) :
    { s2 with mem := fun j => if at_ + 2 ≤ j ∧ j < at_ + 2 + k then 0 else s2.mem j } = putS s at_ v k lit := by
  subst h
  unfold putS hdS
  simp only
  congr 1
  funext j
  unfold upd
  by_cases e : j = at_
  · subst e; rw [if_neg (by omega), if_neg (by omega), if_pos rfl, if_pos rfl]
  · by_cases e1 : j = at_ + 1
    · subst e1; rw [if_neg (by omega), if_pos rfl, if_neg (by omega), if_pos rfl]
    · simp only [e, e1, hf, if_false, false_and]
theorem put_eq6 {s s2 : Hp} {at_ k : Nat} {v lit : Int} (h : s2 = { hdS s at_ v k with st := upd (hdS s at_ v k).st at_ true }) (hf : uF v = 6) :
    { s2 with mem := upd (fun j => if at_ + 2 ≤ j ∧ j < at_ + 2 + k then 0 else s2.mem j) (at_ + 2) (smO lit) } = putS s at_ v k lit := by
  subst h
  unfold putS hdS
  simp only
  congr 1
  funext j
  unfold upd
  show (if j = at_ + 2 then smO lit else if at_ + 2 ≤ j ∧ j < at_ + 2 + k then 0 else if j = at_ + 1 then (k : Int) else if j = at_ then v else s.mem j) = _
  by_cases e : j = at_
  · subst e; rw [if_neg (by omega), if_neg (by omega), if_neg (by omega), if_pos rfl, if_pos rfl]
  · by_cases e1 : j = at_ + 1
    · subst e1; rw [if_neg (by omega), if_neg (by omega), if_pos rfl, if_neg (by omega), if_pos rfl]
    · by_cases e2 : j = at_ + 2
      · subst e2; rw [if_pos rfl, if_neg (by omega), if_neg (by omega), if_pos ⟨hf, rfl⟩]
      · simp only [e, e1, e2, if_false, and_false]
/-- A box of the call's own is stored. -/
theorem fin10 {own : Own} {w X : World} {p : Nat} {s : Hp} {g : Gh} (ho : Owns own w) (h : Rep own X p s g) (hf : Fr p own w own X noE) (b : Nat) (hb : w.heap.size ≤ b) (a0 a1 a2 a3 a4 a5 a6 a7 a8 a9 : Value) :
    Rep own ((((((((((X.setCell ⟨b, 0, none⟩ a0).setCell ⟨b, 1, none⟩ a1).setCell ⟨b, 2, none⟩ a2).setCell ⟨b, 3, none⟩ a3).setCell ⟨b, 4, none⟩ a4).setCell ⟨b, 5, none⟩ a5).setCell ⟨b, 6, none⟩ a6).setCell ⟨b, 7, none⟩ a7).setCell ⟨b, 8, none⟩ a8).setCell ⟨b, 9, none⟩ a9) p s g ∧
    Fr p own w own ((((((((((X.setCell ⟨b, 0, none⟩ a0).setCell ⟨b, 1, none⟩ a1).setCell ⟨b, 2, none⟩ a2).setCell ⟨b, 3, none⟩ a3).setCell ⟨b, 4, none⟩ a4).setCell ⟨b, 5, none⟩ a5).setCell ⟨b, 6, none⟩ a6).setCell ⟨b, 7, none⟩ a7).setCell ⟨b, 8, none⟩ a8).setCell ⟨b, 9, none⟩ a9) noE := by
  have hB : Below w.heap.size X ((((((((((X.setCell ⟨b, 0, none⟩ a0).setCell ⟨b, 1, none⟩ a1).setCell ⟨b, 2, none⟩ a2).setCell ⟨b, 3, none⟩ a3).setCell ⟨b, 4, none⟩ a4).setCell ⟨b, 5, none⟩ a5).setCell ⟨b, 6, none⟩ a6).setCell ⟨b, 7, none⟩ a7).setCell ⟨b, 8, none⟩ a8).setCell ⟨b, 9, none⟩ a9) := store10 (Below.refl _ _) hb
  refine ⟨h.kept (h.owns.mono hB.size) (More.refl _) (fun k l e _ => hB.block k (ho k (by rw [e]; simp))), ?_⟩
  exact ⟨hB.os.trans hf.os, hB.tape.trans hf.tape, hB.output.trans hf.output, Nat.le_trans hf.size hB.size, fun _ _ => rfl, fun _ _ _ e => .inr e, fun k hk h1 h2 => (hB.block k hk).trans (hf.kept k hk h1 h2)⟩

set_option maxHeartbeats 4000000 in
set_option maxRecDepth 100000 in
theorem put_any (own : Own) (w : World) (p : Nat) (s : Hp) (g : Gh) (h : Rep own w p s g) (at_ k : Nat) (ha0 : 2 ≤ at_) (ha : at_ + 2 + k ≤ s.n) (c f sp hs a lit : Int) (m n : Bool) (hh : hdB c f sp hs a k = true) (hl : 0 ≤ lit ∧ lit ≤ 65536) (h6 : f = 6 → 1 ≤ k) :
    Calls Try.prog 45 #[.pointer (some ⟨p, 0, none⟩), .int .i64 at_, hdV c f sp hs a k m n, .int .i64 lit] w fun e w' =>
      e = .returned (objV g (packA c f sp hs a m n) at_ k) ∧ Rep own w' p (putS s at_ (packA c f sp hs a m n) k lit) g ∧ Fr p own w own w' noE := by
  obtain ⟨hu, v0, v1, l0, l1⟩ := packA_unB (m := m) (n := n) hh
  have hv := (hdB_iff _ _ _ _ _ _).1 hh
  obtain ⟨u1, u2, u3, u4, u5, u6, u7⟩ := u_pack c f sp hs a m n (by omega) (by omega) (by omega) (by omega) (by omega) (by omega) (by omega) (by omega) (by omega) (by omega)
  obtain ⟨v, hpv⟩ : ∃ v, v = packA c f sp hs a m n := ⟨_, rfl⟩
  have HSH := fun X own' (r : Rep own' X p s g) => setHead_any own' X p s g r at_ (by omega) c f sp hs a k m n hh
  rw [← hpv] at hu v0 v1 u1 u2 u3 u4 u5 u6 u7 HSH ⊢
  -- the boxes at the head
  obtain ⟨W, hW⟩ : ∃ W, W = (w.alloc (.cells #[.int .i64 c, .int .u8 f, .int .i64 sp, .int .i64 hs, .int .i64 a, .int .i64 k, .bool m, .bool n] 78)).alloc (.cells obj0c 83) := ⟨_, rfl⟩
  have hB : Below w.heap.size w W := by rw [hW]; exact ((Below.refl _ _).alloc (Nat.le_refl _) _).alloc (by simp) _
  have hR := h.below hB (Nat.le_refl _)
  have HS1 := Lib.hid (HSH W own hR)
  have HO := Lib.hid h.owns
  have HW := Lib.hid hW
  have HFW : Hid (Fr p own w own W noE) := Lib.hid (Fr.of_below hB (Nat.le_refl _) _)
  have HW1 : Hid (W.heap[w.heap.size]? = some (.cells #[.int .i64 c, .int .u8 f, .int .i64 sp, .int .i64 hs, .int .i64 a, .int .i64 k, .bool m, .bool n] 78 (0, 0)) ∧ W.heap[w.heap.size + 1]? = some (.cells obj0c 83 (0, 0)) ∧ W.heap.size = w.heap.size + 2) := Lib.hid (by
    refine ⟨?_, ?_, by rw [hW]; simp⟩
    · rw [hW, Below.heap_alloc _ _ _ (by simp)]; exact heap_alloc_new w _
    · rw [hW]; have := heap_alloc_new (w.alloc (.cells #[.int .i64 c, .int .u8 f, .int .i64 sp, .int .i64 hs, .int .i64 a, .int .i64 k, .bool m, .bool n] 78)) (.cells obj0c 83); simpa using this)
  have HS2 := Lib.hid (fun X (r : Rep own X p (hdS s at_ v k) g) => setStart_y own X p _ g r at_ (by show 2 ≤ at_ ∧ at_ + 2 ≤ s.n; omega))
  have hm0 : (hdS s at_ v k).mem at_ = v := by unfold hdS; simp only; rw [upd_other _ _ _ _ (by omega), upd_same]
  have hm1 : (hdS s at_ v k).mem (at_ + 1) = k := by unfold hdS; simp only; rw [upd_same]
  obtain ⟨s2, hs2⟩ : ∃ s2 : Hp, s2 = { hdS s at_ v k with st := upd (hdS s at_ v k).st at_ true } := ⟨_, rfl⟩
  have hn2 : s2.n = s.n := by rw [hs2]; rfl
  have q0 : s2.mem at_ = v := by rw [hs2]; exact hm0
  have q1 : s2.mem (at_ + 1) = k := by rw [hs2]; exact hm1
  have hsl2 : sl s2 at_ = k := by unfold sl; rw [q1]; omega
  have HS3 := Lib.hid (fun X (r : Rep own X p s2 g) => obj_any own X p s2 g r at_ (by rw [hsl2, hn2]; exact ha) (by rw [q0, q1]; exact hu))
  rw [q0, hsl2] at HS3
  have HCL := Lib.hid (fun X (r : Rep own X p s2 g) ty => run_clear r at_ k (by rw [hn2]; exact ha) ty)
  have HFI := Lib.hid (fun X (r : Rep own X p s2 g) => r.fill (v := 0) (by omega) k (at_ + 2) (by rw [hn2]; exact ha))
  rw [← hs2] at HS2
  clear h hR hB HSH hv hm0 hm1 q0 q1 hsl2
  have HU : Hid (uC v = c ∧ uF v = f ∧ uS v = sp ∧ uH v = hs ∧ uA v = a ∧ uM v = m ∧ uN v = n) := Lib.hid ⟨u1, u2, u3, u4, u5, u6, u7⟩
  clear u1 u2 u3 u4 u5 u6 u7
  have HS2E := Lib.hid hs2
  clear hs2 hpv
  have ht : ((f == 6) = true ∧ 1 ≤ k) ∨ (f == 6) = false := by
    by_cases e : f = 6
    · exact .inl ⟨by simp [e], h6 e⟩
    · exact .inr (by simp [e])
  clear h6
  have hs0 : ∀ X, Calls Try.prog 70 #[.int .i64 lit] X fun e w' => e = .returned (.tuple #[.int .u64 (smO lit), .bool true]) ∧ X = w' := fun X => by
    have hb : smB lit = true := by unfold smB; simp; omega
    have := small_any lit X
    rw [hb] at this; exact this
  have HSM := Lib.hid hs0
  have hsm := smO_bd lit
  have HSM2 := Lib.hid hsm
  clear hs0 hsm
  obtain ⟨sa, hsa⟩ : ∃ sa, slA g at_ k = some sa ∧ (1 ≤ k → sa = ⟨g.wb, at_ + 2, none⟩) := by
    unfold slA; split
    · exact ⟨_, rfl, fun q => by omega⟩
    · exact ⟨_, rfl, fun _ => rfl⟩
  simp only [objV] at HS3 ⊢
  rw [hsa.1] at HS3 HCL ⊢
  have HSA := Lib.hid hsa
  clear hsa
  rcases ht with ⟨t1, hk1⟩ | t1
  all_goals
   go_enter Try.func45, Try.ntmps45
   go_wp2_with (first
     | (go_at_call 39; rw [← hW]; refine HS1.out.mono ?_; rintro e w1 ⟨rfl, hr1, hf1⟩; clear hW; have HR1 := Lib.hid hr1; have HF1 := Lib.hid hf1; clear hr1 hf1)
     | (go_at_call 69; refine (HS2.out _ HR1.out).mono ?_; rintro e w2 ⟨rfl, hr2, hf2⟩; have HR2 := Lib.hid hr2; have HF2 := Lib.hid (HF1.out.trans hf2); clear hr2 hf2 HR1 HF1)
     | (go_at_call 70; refine (HSM.out _).mono ?_; rintro e w' ⟨rfl, rfl⟩; have hsa2 := HSA.out.2 hk1)
     | (go_at_call 50; refine (HS3.out _ HR2.out).mono ?_; rintro e w3 ⟨rfl, b3⟩
        have hr3 := (HR2.out.below b3 (Nat.le_refl _)).below ((Below.refl w3.heap.size w3).alloc (Nat.le_refl _) (.cells #[.int .i64 at_, .int .i64 (uC v), .int .u8 (uF v), .int .i64 (uS v), .int .i64 (uH v), .int .i64 (uA v), .int .i64 k, .bool (uM v), .bool (uN v), .slice (some sa) k k] 83)) (Nat.le_refl _)
        have hf3 : Fr p own W own (w3.alloc (.cells #[.int .i64 at_, .int .i64 (uC v), .int .u8 (uF v), .int .i64 (uS v), .int .i64 (uH v), .int .i64 (uA v), .int .i64 k, .bool (uM v), .bool (uN v), .slice (some sa) k k] 83)) noE := (HF2.out.trans (Fr.of_below b3 (Nat.le_refl _) _)).trans (Fr.of_below ((Below.refl w3.heap.size w3).alloc (Nat.le_refl _) _) (Nat.le_refl _) _)
        have hnw := heap_alloc_new w3 (.cells #[.int .i64 at_, .int .i64 (uC v), .int .u8 (uF v), .int .i64 (uS v), .int .i64 (uH v), .int .i64 (uA v), .int .i64 k, .bool (uM v), .bool (uN v), .slice (some sa) k k] 83)
        have hsz : (w3.alloc (.cells #[.int .i64 at_, .int .i64 (uC v), .int .u8 (uF v), .int .i64 (uS v), .int .i64 (uH v), .int .i64 (uA v), .int .i64 k, .bool (uM v), .bool (uN v), .slice (some sa) k k] 83)).heap.size = w3.heap.size + 1 := by simp
        have hge : W.heap.size ≤ w3.heap.size := Nat.le_trans HF2.out.size b3.size
        have hclr := HCL.out _ hr3
        obtain ⟨hr4, hf4⟩ := HFI.out _ hr3
        obtain ⟨X4, hX4⟩ : ∃ X4, X4 = (w3.alloc (.cells #[.int .i64 at_, .int .i64 (uC v), .int .u8 (uF v), .int .i64 (uS v), .int .i64 (uH v), .int .i64 (uA v), .int .i64 k, .bool (uM v), .bool (uN v), .slice (some sa) k k] 83)).setCells g.wb (at_ + 2) (List.replicate k (.int .u64 0)) := ⟨_, rfl⟩
        rw [← hX4] at hclr hr4 hf4
        have HX := Lib.hid (And.intro (hf3.trans hf4) (And.intro hr4 (And.intro ((hf4.kept w3.heap.size (by rw [hsz]; omega) (fun l e => by rw [owns_none HO.out (by have := HW1.out.2.2; omega)] at e; cases e) (fun q => q)).trans hnw) hge)))
        clear hX4 hr3 hf3 hr4 hf4 hnw hsz hge b3 HR2 HF2
        (try have hcx : X4.cell? ⟨g.wb, at_ + 2, none⟩ = some (.int .u64 0) := by (have hq := HX.out.2.1.word (at_ + 2) (by show at_ + 2 < s2.n; omega); simp only at hq; rw [if_pos ⟨by omega, by omega⟩] at hq; exact hq))
        have hfx := frozen_blk HX.out.2.1.wcell (at_ + 2)
        have hwl := HO.out g.wb (by rw [HX.out.2.1.wown]; simp)
        have hne : ¬ g.wb = w.heap.size + 1 := by omega
        have hne2 : ¬ w.heap.size + 1 = g.wb := by omega
        have hne3 : ¬ g.wb = w3.heap.size := by have := HX.out.2.2.2; have := HW1.out.2.2; omega
        have hne4 : ¬ w3.heap.size = g.wb := by have := HX.out.2.2.2; have := HW1.out.2.2; omega
        obtain ⟨y0, y1, y2, y3, y4, y5, y6, y7, yf⟩ := box8 ((HX.out.1.kept w.heap.size (by have := HW1.out.2.2; omega) (fun l e => by rw [owns_none HO.out (Nat.le_refl _)] at e; cases e) (fun q => q)).trans HW1.out.1)
        obtain ⟨z0, z1, z2, z3, z4, z5, z6, z7, z8, z9, zf⟩ := box10 HX.out.2.2.1
        obtain ⟨x0, x1, x2, x3, x4, x5, x6, x7, x8, x9, xf⟩ := box10 ((HX.out.1.kept (w.heap.size + 1) (by have := HW1.out.2.2; omega) (fun l e => by rw [owns_none HO.out (by omega)] at e; cases e) (fun q => q)).trans HW1.out.2.1)))
  · have hsa3 := HSA.out.2 hk1
    subst hsa3
    refine bodyPost_ret (v := .agg #[.int .i64 at_, .int .i64 (uC v), .int .u8 (uF v), .int .i64 (uS v), .int .i64 (uH v), .int .i64 (uA v), .int .i64 k, .bool (uM v), .bool (uN v), .slice (some ⟨g.wb, at_ + 2, none⟩) k k]) (by simp [results, Try.results45, go_sem, x0, x1, x2, x3, x4, x5, x6, x7, x8, x9]) rfl ?_
    obtain ⟨r5, f5⟩ := HX.out.2.1.setW (at_ + 2) (smO lit) (by show at_ + 2 < s2.n; omega) HSM2.out
    obtain ⟨r6, f6⟩ := fin10 HO.out r5 ((HFW.out.trans HX.out.1).trans f5) (w.heap.size + 1) (Nat.le_succ _) (.int .i64 at_) (.int .i64 (uC v)) (.int .u8 (uF v)) (.int .i64 (uS v)) (.int .i64 (uH v)) (.int .i64 (uA v)) (.int .i64 k) (.bool (uM v)) (.bool (uN v)) (.slice (some ⟨g.wb, at_ + 2, none⟩) k k)
    refine ⟨rfl, ?_, ?_⟩
    · rw [← put_eq6 HS2E.out (by rw [HU.out.2.1]; simpa using t1)]
      exact r6
    · exact f6
  · refine bodyPost_ret (v := .agg #[.int .i64 at_, .int .i64 (uC v), .int .u8 (uF v), .int .i64 (uS v), .int .i64 (uH v), .int .i64 (uA v), .int .i64 k, .bool (uM v), .bool (uN v), .slice (some sa) k k]) (by simp [results, Try.results45, go_sem, x0, x1, x2, x3, x4, x5, x6, x7, x8, x9]) rfl ?_
    obtain ⟨r6, f6⟩ := fin10 HO.out HX.out.2.1 (HFW.out.trans HX.out.1) (w.heap.size + 1) (Nat.le_succ _) (.int .i64 at_) (.int .i64 (uC v)) (.int .u8 (uF v)) (.int .i64 (uS v)) (.int .i64 (uH v)) (.int .i64 (uA v)) (.int .i64 k) (.bool (uM v)) (.bool (uN v)) (.slice (some sa) k k)
    refine ⟨rfl, ?_, f6⟩
    rw [← put_eq HS2E.out (by rw [HU.out.2.1]; simpa using t1)]
    exact r6
end Go.Proofs.Ytklbgccfcfldaaa.Wk
