/- SetSlot, SetByte, SetClass: an object's pieces are laid. -/
import Derived.Test.YtklbgccfcfldaaaC7
import Derived.Test.YtklbgccfcfldaaaA5
set_option linter.unusedVariables false
namespace Go.Proofs.Ytklbgccfcfldaaa.Wk
open Go.ChangeShapes Go.WideShapes Go.ChangeAt Go.RowKit M

def setByteS (s : Hp) (a i : Nat) (b : Int) : Hp := { s with mem := upd s.mem (bAt s a i) (setB (s.mem (bAt s a i)) (i % 8 * 8) b) }
def Done (own : Own) (w : World) (p : Nat) (s : Hp) (g : Gh) (e : Ending) (w' : World) : Prop := e = .returned (.int .i64 0) ∧ Rep own w' p s g ∧ Fr p own w own w' noE

set_option maxHeartbeats 2000000 in
set_option maxRecDepth 100000 in
theorem setSlot_y (own : Own) (w : World) (p : Nat) (s : Hp) (g : Gh) (h : Rep own w p s g) (hw : Wf s) (o : Int) (h0 : 0 ≤ o) (h2 : o ≤ 18446744073709551615) (ho : isOb s o = true) (i : Nat) (hi : i < nOops s (atO o)) (h6 : fmt s (atO o) = 6 → i ≠ 0) (v : Int) (hv0 : 0 ≤ v) (hv2 : v ≤ 18446744073709551615) (hv : okV s v = true) (hy : isYoung s v = false ∨ isYoung s o = true) :
    Calls Try.prog 8 #[.pointer (some ⟨p, 0, none⟩), .int .u64 o, .int .i64 i, .int .u64 v] w (Done own w p (setSlotS s (atO o) i v) g) := by
  have HF := find_y own w p s g h hw o h0 h2 ho
  have hst := (isOb_at hw ho).2
  have hle := nOops_le hw hst
  have hbd := hw.st _ hst
  have HO := Lib.hid (fun w1 (b : Below w.heap.size w w1) => oops_any own (w1.alloc (.cells #[.int .i64 (atO o), .int .i64 (uC (s.mem (atO o))), .int .u8 (uF (s.mem (atO o))), .int .i64 (uS (s.mem (atO o))), .int .i64 (uH (s.mem (atO o))), .int .i64 (uA (s.mem (atO o))), .int .i64 (sl s (atO o)), .bool (uM (s.mem (atO o))), .bool (uN (s.mem (atO o))), .slice (slA g (atO o) (sl s (atO o))) (sl s (atO o)) (sl s (atO o))] 83)) p s g (found (W := w) h b _) hw (atO o) hst)
  have HS := Lib.hid (fun X (r : Rep own X p s g) => isStorable_any own X p s g r v hv0 hv2)
  have hws := wf_slot hw hst (by omega : i < sl s (atO o)) h6 ⟨hv0, hv2⟩
  have hsa0 : slA g (atO o) (sl s (atO o)) = some ⟨g.wb, atO o + 2, none⟩ := by unfold slA; rw [if_neg (by omega)]
  have HNR := Lib.hid (fun X (r : Rep own X p (setSlotS s (atO o) i v) g) => noteRef_no own X p (setSlotS s (atO o) i v) g r hws o v h0 h2 hv0 hv2 (hy.elim .inl (fun q => .inr ⟨ho, q⟩)))
  have HB := Lib.hid (fun w1 (b : Below w.heap.size w w1) => found (W := w) h b (.cells #[.int .i64 (atO o), .int .i64 (uC (s.mem (atO o))), .int .u8 (uF (s.mem (atO o))), .int .i64 (uS (s.mem (atO o))), .int .i64 (uH (s.mem (atO o))), .int .i64 (uA (s.mem (atO o))), .int .i64 (sl s (atO o)), .bool (uM (s.mem (atO o))), .bool (uN (s.mem (atO o))), .slice (slA g (atO o) (sl s (atO o))) (sl s (atO o)) (sl s (atO o))] 83))
  have hn0 : atO o + 2 + i < s.n := by omega
  have hF : uF (s.mem (atO o)) = fmt s (atO o) := rfl
  have t6 : ((fmt s (atO o) == 6) && ((i : Int) == 0)) = false := by
    by_cases e : fmt s (atO o) = 6
    · have := h6 e; simp; omega
    · simp [e]
  rw [hv] at HS
  simp only [objV] at HF HO
  rw [hsa0] at HF HO HB
  rw [hF] at HF HO HB
  clear h hw ho hst hle hbd hsa0 hws hy hv hF h6
  generalize nOops s (atO o) = n at *
  generalize fmt s (atO o) = f at *
  generalize s.mem (atO o) = x at *
  generalize sl s (atO o) = k at *
  generalize atO o = a at *
  have i1 : (i : Int) < n := by omega
  have i2 : (decide ((0 : Int) ≤ (i : Int)) && decide ((i : Int) < (n : Int))) = true := by simp; omega
  obtain ⟨b6, hb6⟩ : ∃ b6, (f == 6) = b6 := ⟨_, rfl⟩
  rw [hb6] at t6
  cases b6
  all_goals
    try (have t7 : ((i : Int) == 0) = false := by simpa using t6)
    clear t6
    go_enter Try.func8, Try.ntmps8
    go_wp2_with (first
      | (go_at_call 24; refine HF.mono ?_; rintro e w1 ⟨rfl, b1⟩; have B1 := Lib.hid b1; have HR1 := Lib.hid (HB.out _ b1); have HF1 : Hid (Fr p own w own _ noE) := Lib.hid ((Fr.of_below b1 (Nat.le_refl _) noE).trans (fr_alloc w1 (.cells #[.int .i64 a, .int .i64 (uC x), .int .u8 f, .int .i64 (uS x), .int .i64 (uH x), .int .i64 (uA x), .int .i64 k, .bool (uM x), .bool (uN x), .slice (some ⟨g.wb, a + 2, none⟩) k k] 83))); clear b1)
      | (go_at_call 25; refine (HO.out _ B1.out).mono ?_; rintro e w2 ⟨rfl, b2⟩; have HR2 := Lib.hid (HR1.out.below b2 (Nat.le_refl _)); have HF2 := Lib.hid (HF1.out.trans (Fr.of_below b2 (Nat.le_refl _) noE)); obtain ⟨z0, z1, z2, z3, z4, z5, z6, z7, z8, z9, zf⟩ := box10 ((b2.block w1.heap.size (by simp)).trans (heap_alloc_new w1 _)); have cc := HR2.out.word (a + 2 + i) hn0; have fz := frozen_blk HR2.out.wcell (a + 2 + i); clear b2)
      | (go_at_call 26; refine (isIndex_any _ _ _).mono ?_; rintro e w3 ⟨rfl, rfl⟩)
      | (go_at_call 27; refine (HS.out _ HR2.out).mono ?_; rintro e w3 ⟨rfl, rfl⟩; have HR3 := Lib.hid (HR2.out.setW (a + 2 + i) v hn0 ⟨hv0, hv2⟩))
      | (go_at_call 28; refine (HNR.out _ HR3.out.1).mono ?_; rintro e w4 ⟨rfl, b4⟩))
    go_ret
    exact ⟨rfl, HR3.out.1.below b4 (Nat.le_refl _), (HF2.out.trans HR3.out.2).trans (Fr.of_below b4 (Nat.le_refl _) noE)⟩

set_option maxHeartbeats 2000000 in
set_option maxRecDepth 100000 in
theorem setByte_y (own : Own) (w : World) (p : Nat) (s : Hp) (g : Gh) (h : Rep own w p s g) (hw : Wf s) (o : Int) (h0 : 0 ≤ o) (h2 : o ≤ 18446744073709551615) (ho : isOb s o = true) (i : Nat) (hi : i < nBytes s (atO o)) (b : Int) (hb0 : 0 ≤ b) (hb2 : b ≤ 255) :
    Calls Try.prog 13 #[.pointer (some ⟨p, 0, none⟩), .int .u64 o, .int .i64 i, .int .u8 b] w (Done own w p (setByteS s (atO o) i b) g) := by
  unfold setByteS
  have HB := byteOf_y own w p s g h hw o h0 h2 ho i hi
  have hst := (isOb_at hw ho).2
  have hq := (bAt_lt hw hst hi).2.1
  have HC := Lib.hid (fun w1 (b : Below w.heap.size w w1) => h.below b (Nat.le_refl _))
  have hm := h.w0.mem (bAt s (atO o) i)
  generalize bAt s (atO o) i = z at *
  obtain ⟨y, hy⟩ : ∃ y, s.mem z = y := ⟨_, rfl⟩
  clear h hw ho hst
  go_enter Try.func13, Try.ntmps13
  go_wp2_with (go_at_call 37; refine HB.mono ?_; rintro e w1 ⟨rfl, b1⟩; have B1 := Lib.hid b1; have HR1 := Lib.hid (HC.out _ b1); have cc := HR1.out.word z hq; have fz := frozen_blk HR1.out.wcell z; rw [hy] at cc; clear b1)
  go_still_tail 13, (by kernel_rfl)
  go_wp2
  rw [setB_bits y b (i % 8 * 8) (by omega) (hy ▸ hm.1) (hy ▸ hm.2) hb0 hb2]
  go_ret
  obtain ⟨r2, f2⟩ := HR1.out.setW z (setB y (i % 8 * 8) b) hq (setB_bd y b _ (by omega) (hy ▸ hm.1) (hy ▸ hm.2) hb0 hb2)
  rw [← hy] at r2 f2 ⊢
  exact ⟨rfl, r2.below (Below.drew (Below.refl _ _)) (Nat.le_refl _), ((Fr.of_below B1.out (Nat.le_refl _) noE).trans f2).trans (Fr.of_below (Below.drew (Below.refl _ _)) (Nat.le_refl _) noE)⟩

set_option maxHeartbeats 2000000 in
set_option maxRecDepth 100000 in
theorem setClass_y (own : Own) (w : World) (p : Nat) (s : Hp) (g : Gh) (h : Rep own w p s g) (hw : Wf s) (o : Int) (h0 : 0 ≤ o) (h2 : o ≤ 18446744073709551615) (ho : isOb s o = true) (c : Int) (hc0 : 0 ≤ c) (hc2 : c ≤ 4095) :
    Calls Try.prog 17 #[.pointer (some ⟨p, 0, none⟩), .int .u64 o, .int .i64 c] w (Done own w p (hdS s (atO o) (packA c (uF (s.mem (atO o))) (uS (s.mem (atO o))) (uH (s.mem (atO o))) (uA (s.mem (atO o))) (uM (s.mem (atO o))) (uN (s.mem (atO o)))) (sl s (atO o))) g) := by
  have HF := find_y own w p s g h hw o h0 h2 ho
  have hst := (isOb_at hw ho).2
  have hbd := hw.st _ hst
  have hh : hdB c (uF (s.mem (atO o))) (uS (s.mem (atO o))) (uH (s.mem (atO o))) (uA (s.mem (atO o))) (sl s (atO o)) = true := by
    have h1 := ((unB_iff _ _).1 hbd.2.2).2.2
    rw [(wf_hd hw hst).2.2.1] at h1
    rw [hdB_iff] at h1 ⊢
    omega
  have HB := Lib.hid (fun w1 (b : Below w.heap.size w w1) => (h.below b (Nat.le_refl _)).below ((Below.refl _ _).alloc (Nat.le_refl _) (.cells #[.int .i64 (atO o), .int .i64 c, .int .u8 (uF (s.mem (atO o))), .int .i64 (uS (s.mem (atO o))), .int .i64 (uH (s.mem (atO o))), .int .i64 (uA (s.mem (atO o))), .int .i64 (sl s (atO o)), .bool (uM (s.mem (atO o))), .bool (uN (s.mem (atO o))), .slice (slA g (atO o) (sl s (atO o))) (sl s (atO o)) (sl s (atO o))] 83)) (Nat.le_refl _))
  have HS := Lib.hid (fun X (r : Rep own X p s g) => setHead_any own X p s g r (atO o) (by omega) c _ _ _ _ (sl s (atO o)) (uM (s.mem (atO o))) (uN (s.mem (atO o))) hh)
  simp only [objV] at HF
  obtain ⟨sa, hsa⟩ : ∃ sa, sa = slA g (atO o) (sl s (atO o)) := ⟨_, rfl⟩
  rw [← hsa] at HF HB
  clear h hw ho hst hbd hsa hh
  generalize hdS s (atO o) _ _ = s' at *
  generalize s.mem (atO o) = x at *
  generalize sl s (atO o) = k at *
  generalize atO o = a at *
  have i1 : c < 4096 := by omega
  have i2 : (decide ((0 : Int) ≤ c) && decide (c < 4096)) = true := by simp; omega
  go_enter Try.func17, Try.ntmps17
  go_wp2_with (first
    | (go_at_call 24; refine HF.mono ?_; rintro e w1 ⟨rfl, b1⟩; have B1 := Lib.hid b1; have HR1 := Lib.hid (HB.out _ b1); clear b1)
    | (go_at_call 26; refine (isIndex_any _ _ _).mono ?_; rintro e w3 ⟨rfl, rfl⟩)
    | (go_at_call 39; refine (HS.out _ HR1.out).mono ?_; rintro e w4 ⟨rfl, r4, f4⟩))
  go_ret
  exact ⟨rfl, r4, ((Fr.of_below B1.out (Nat.le_refl _) noE).trans (fr_alloc w1 _)).trans f4⟩

end Go.Proofs.Ytklbgccfcfldaaa.Wk
