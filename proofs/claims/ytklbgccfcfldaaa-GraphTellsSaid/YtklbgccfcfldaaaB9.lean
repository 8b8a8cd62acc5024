/- byteOf, Byte, wordOf, Word: an object's bytes and words, one by one. -/
import Derived.Test.YtklbgccfcfldaaaB8
set_option linter.unusedVariables false
namespace Go.Proofs.Ytklbgccfcfldaaa.Wk
open Go.ChangeShapes Go.WideShapes Go.ChangeAt Go.RowKit M

theorem nBytes_hasB {s : Hp} {a i : Nat} (h : i < nBytes s a) : hasB s a = true := by
  unfold nBytes at h
  cases e : hasB s a
  · rw [e] at h; simp at h
  · rfl
/-- Where the byte stands. -/
def bAt (s : Hp) (a i : Nat) : Nat := a + 2 + nOops s a + i / 8
theorem bAt_lt {s : Hp} (hw : Wf s) {a i : Nat} (ha : s.st a = true) (h : i < nBytes s a) : i / 8 < sl s a - nOops s a ∧ bAt s a i < s.n ∧ nOops s a < sl s a := by
  have hB := nBytes_hasB h
  have hle := nOops_le hw ha
  have hbd := hw.st a ha
  unfold nBytes at h
  rw [hB] at h
  simp only [if_true] at h
  unfold bAt; omega
def byteV (s : Hp) (a i : Nat) : Int := s.mem (bAt s a i) / (2 : Int) ^ (i % 8 * 8) % 256
theorem drawn_eq (w : World) : Below w.heap.size w w := Below.refl _ _

set_option maxHeartbeats 2000000 in
set_option maxRecDepth 100000 in
theorem byteOf_y (own : Own) (w : World) (p : Nat) (s : Hp) (g : Gh) (h : Rep own w p s g) (hw : Wf s) (o : Int) (h0 : 0 ≤ o) (h2 : o ≤ 18446744073709551615) (ho : isOb s o = true) (i : Nat) (hi : i < nBytes s (atO o)) :
    Calls Try.prog 37 #[.pointer (some ⟨p, 0, none⟩), .int .u64 o, .int .i64 i] w fun e w' => e = .returned (.tuple #[.pointer (some ⟨g.wb, bAt s (atO o) i, none⟩), .int .i64 ((i : Int) % 8 * 8), .int .i64 0]) ∧ Below w.heap.size w w' := by
  have HF := find_y own w p s g h hw o h0 h2 ho
  have hst := (isOb_at hw ho).2
  have HO := Lib.hid (fun w1 (b : Below w.heap.size w w1) => bytes_any own (w1.alloc (.cells #[.int .i64 (atO o), .int .i64 (uC (s.mem (atO o))), .int .u8 (uF (s.mem (atO o))), .int .i64 (uS (s.mem (atO o))), .int .i64 (uH (s.mem (atO o))), .int .i64 (uA (s.mem (atO o))), .int .i64 (sl s (atO o)), .bool (uM (s.mem (atO o))), .bool (uN (s.mem (atO o))), .slice (slA g (atO o) (sl s (atO o))) (sl s (atO o)) (sl s (atO o))] 83)) p s g (found (W := w) h b _) hw (atO o) hst)
  obtain ⟨q1, q2, q3⟩ := bAt_lt hw hst hi
  have hsv : bsl s g (atO o) = .slice (some ⟨g.wb, atO o + 2 + nOops s (atO o), none⟩) (sl s (atO o) - nOops s (atO o)) (sl s (atO o) - nOops s (atO o)) := by
    unfold bsl; rw [nBytes_hasB hi]; simp only [if_true, byteA]; rw [if_neg (by omega)]
  rw [hsv] at HO
  have hk64 := (wf_hd hw hst).2.2.2
  have i0 : (i : Int) ≤ 524288 := by omega
  have hat : bAt s (atO o) i = atO o + 2 + nOops s (atO o) + i / 8 := rfl
  simp only [objV] at HF HO
  obtain ⟨sa, hsa⟩ : ∃ sa, sa = slA g (atO o) (sl s (atO o)) := ⟨_, rfl⟩
  rw [← hsa] at HF HO
  rw [hat]
  clear h hw ho hsa hst hsv hat q2
  generalize nBytes s (atO o) = nb at *
  generalize nOops s (atO o) = n at *
  generalize s.mem (atO o) = x at *
  generalize sl s (atO o) = k at *
  generalize atO o = a at *
  obtain ⟨m, hm⟩ : ∃ m, m = k - n := ⟨_, rfl⟩
  rw [← hm] at HO q1
  clear hm
  have i1 : (i : Int) < nb := by omega
  have i2 : (i : Int) / 8 < m := by omega
  have i3 : i / 8 < m := by omega
  have i4 : (decide ((0 : Int) ≤ (i : Int)) && decide ((i : Int) < (nb : Int))) = true := by simp; omega
  go_enter Try.func37, Try.ntmps37
  go_wp2_with (first
    | (go_at_call 24; refine HF.mono ?_; rintro e w1 ⟨rfl, b1⟩; have B1 := Lib.hid b1; clear b1)
    | (go_at_call 65; refine (HO.out _ B1.out).mono ?_; rintro e w2 ⟨rfl, b2⟩; have B2 := Lib.hid b2; clear b2)
    | (go_at_call 26; refine (isIndex_any _ _ _).mono ?_; rintro e w3 ⟨rfl, rfl⟩))
  go_ret3
  exact ⟨rfl, (B1.out.alloc B1.out.size _).trans (B2.out.mono (by simp; exact Nat.le_succ_of_le B1.out.size))⟩

set_option maxHeartbeats 2000000 in
set_option maxRecDepth 100000 in
theorem byte_y (own : Own) (w : World) (p : Nat) (s : Hp) (g : Gh) (h : Rep own w p s g) (hw : Wf s) (o : Int) (h0 : 0 ≤ o) (h2 : o ≤ 18446744073709551615) (ho : isOb s o = true) (i : Nat) (hi : i < nBytes s (atO o)) :
    Calls Try.prog 16 #[.pointer (some ⟨p, 0, none⟩), .int .u64 o, .int .i64 i] w fun e w' => e = .returned (.tuple #[.int .u8 (byteV s (atO o) i), .int .i64 0]) ∧ Below w.heap.size w w' := by
  have HB := byteOf_y own w p s g h hw o h0 h2 ho i hi
  have hst := (isOb_at hw ho).2
  have hq := (bAt_lt hw hst hi).2.1
  have HC := Lib.hid (fun w1 (b : Below w.heap.size w w1) => (h.below b (Nat.le_refl _)).word (bAt s (atO o) i) hq)
  have hm := h.w0.mem (bAt s (atO o) i)
  unfold byteV
  clear h hw ho hst hq
  generalize bAt s (atO o) i = z at *
  generalize s.mem z = y at *
  go_enter Try.func16, Try.ntmps16
  go_wp2_with (go_at_call 37; refine HB.mono ?_; rintro e w1 ⟨rfl, b1⟩; have B1 := Lib.hid b1; have hc := HC.out _ b1; clear b1)
  go_ret2
  exact ⟨rfl, B1.out⟩

set_option maxHeartbeats 2000000 in
set_option maxRecDepth 100000 in
theorem wordOf_y (own : Own) (w : World) (p : Nat) (s : Hp) (g : Gh) (h : Rep own w p s g) (hw : Wf s) (o : Int) (h0 : 0 ≤ o) (h2 : o ≤ 18446744073709551615) (ho : isOb s o = true) (hf : fmt s (atO o) = 4) (i : Nat) (hi : i < sl s (atO o)) :
    Calls Try.prog 88 #[.pointer (some ⟨p, 0, none⟩), .int .u64 o, .int .i64 i] w fun e w' => e = .returned (.tuple #[.pointer (some ⟨g.wb, atO o + 2 + i, none⟩), .int .i64 0]) ∧ Below w.heap.size w w' := by
  have HF := find_y own w p s g h hw o h0 h2 ho
  have hst := (isOb_at hw ho).2
  have hk64 := (wf_hd hw hst).2.2.2
  simp only [objV] at HF
  have hsa : slA g (atO o) (sl s (atO o)) = some ⟨g.wb, atO o + 2, none⟩ := by unfold slA; rw [if_neg (by omega)]
  rw [hsa] at HF
  have hF : uF (s.mem (atO o)) = 4 := hf
  rw [hF] at HF
  clear h hw ho hst hsa hF hf
  generalize s.mem (atO o) = x at *
  generalize sl s (atO o) = k at *
  generalize atO o = a at *
  have i1 : (i : Int) < k := by omega
  have i4 : (decide ((0 : Int) ≤ (i : Int)) && decide ((i : Int) < (k : Int))) = true := by simp; omega
  go_enter Try.func88, Try.ntmps88
  go_wp2_with (first
    | (go_at_call 24; refine HF.mono ?_; rintro e w1 ⟨rfl, b1⟩; have B1 := Lib.hid b1; clear b1)
    | (go_at_call 26; refine (isIndex_any _ _ _).mono ?_; rintro e w3 ⟨rfl, rfl⟩))
  go_ret2
  exact ⟨rfl, B1.out.alloc B1.out.size _⟩

set_option maxHeartbeats 2000000 in
set_option maxRecDepth 100000 in
theorem word_y (own : Own) (w : World) (p : Nat) (s : Hp) (g : Gh) (h : Rep own w p s g) (hw : Wf s) (o : Int) (h0 : 0 ≤ o) (h2 : o ≤ 18446744073709551615) (ho : isOb s o = true) (hf : fmt s (atO o) = 4) (i : Nat) (hi : i < sl s (atO o)) :
    Calls Try.prog 80 #[.pointer (some ⟨p, 0, none⟩), .int .u64 o, .int .i64 i] w fun e w' => e = .returned (.tuple #[.int .u64 (s.mem (atO o + 2 + i)), .int .i64 0]) ∧ Below w.heap.size w w' := by
  have HB := wordOf_y own w p s g h hw o h0 h2 ho hf i hi
  have hst := (isOb_at hw ho).2
  have hbd := hw.st _ hst
  have HC := Lib.hid (fun w1 (b : Below w.heap.size w w1) => (h.below b (Nat.le_refl _)).word (atO o + 2 + i) (by omega))
  clear h hw ho hst hbd
  generalize s.mem (atO o + 2 + i) = y at *
  generalize atO o = a at *
  go_enter Try.func80, Try.ntmps80
  go_wp2_with (go_at_call 88; refine HB.mono ?_; rintro e w1 ⟨rfl, b1⟩; have B1 := Lib.hid b1; have hc := HC.out _ b1; clear b1)
  go_ret2
  exact ⟨rfl, B1.out⟩

/-- The roots by their lists. -/
theorem Row.at {w : World} {e : TypeId} {v : Value} {l : List Int} (h : Row w e 1 v l.length (ocells l)) : ∃ a c, v = .slice a l.length c ∧ l.length ≤ c ∧ ∀ i, i < l.length → ∃ b, a = some ⟨b, 0, none⟩ ∧ w.cell? ⟨b, i, none⟩ = some (.int .u64 (l.getD i 0)) := by
  have hc : ∀ a c, v = .slice a l.length c → l.length ≤ c := by
    intro a c e
    rcases h.2 with ⟨h0, a', e'⟩ | ⟨g, cap, cur, e', hc, _, hn, _⟩
    · rw [e'] at e; injection e with _ q1 q2; omega
    · rw [e'] at e; injection e with _ q1 q2; omega
  obtain ⟨a, c, e1, _, h2⟩ := h.cells
  refine ⟨a, c, e1, hc a c e1, fun i hi => ?_⟩
  obtain ⟨b, e2, e3⟩ := h2 i (.int .u64 (l.getD i 0)) (by simp [ocells, hi])
  exact ⟨b, e2, e3⟩
set_option maxHeartbeats 2000000 in
set_option maxRecDepth 100000 in
theorem depth_any (own : Own) (w : World) (p : Nat) (s : Hp) (g : Gh) (h : Rep own w p s g) :
    Calls Try.prog 30 #[.pointer (some ⟨p, 0, none⟩)] w fun e w' => e = .returned (.int .i64 s.stack.length) ∧ w = w' := by
  have hc := h.stk
  obtain ⟨a, c, e1, _⟩ := h.krow.at
  rw [e1] at hc
  clear h
  go_enter Try.func30, Try.ntmps30
  go_wp2
  go_ret
  exact ⟨rfl, rfl⟩
set_option maxHeartbeats 2000000 in
set_option maxRecDepth 100000 in
theorem queued_any (own : Own) (w : World) (p : Nat) (s : Hp) (g : Gh) (h : Rep own w p s g) :
    Calls Try.prog 31 #[.pointer (some ⟨p, 0, none⟩)] w fun e w' => e = .returned (.int .i64 s.queue.length) ∧ w = w' := by
  have hc := h.que
  obtain ⟨a, c, e1, _⟩ := h.qrow.at
  rw [e1] at hc
  clear h
  go_enter Try.func31, Try.ntmps31
  go_wp2
  go_ret
  exact ⟨rfl, rfl⟩
set_option maxHeartbeats 2000000 in
set_option maxRecDepth 100000 in
theorem root_y (own : Own) (w : World) (p : Nat) (s : Hp) (g : Gh) (h : Rep own w p s g) (i : Nat) (hi : i < s.stack.length) :
    Calls Try.prog 14 #[.pointer (some ⟨p, 0, none⟩), .int .i64 i] w fun e w' => e = .returned (.tuple #[.int .u64 (s.stack.getD i 0), .int .i64 0]) ∧ w = w' := by
  have hc := h.stk
  have hl := h.w0.stack
  obtain ⟨a, c, e1, e2, e3⟩ := h.krow.at
  obtain ⟨b, e4, e5⟩ := e3 i hi
  rw [e1, e4] at hc
  clear h e1 e3
  subst e4
  generalize s.stack.getD i 0 = y at *
  generalize s.stack.length = n at *
  have i1 : (i : Int) < n := by omega
  have i4 : (decide ((0 : Int) ≤ (i : Int)) && decide ((i : Int) < (n : Int))) = true := by simp; omega
  have HR : Calls Try.prog 38 #[.slice (some ⟨b, 0, none⟩) n c, .int .i64 i] w fun e w' => e = .returned (.tuple #[.int .u64 y, .int .i64 0]) ∧ w = w' := by
    go_enter Try.func38, Try.ntmps38
    go_wp2_with (go_at_call 26; refine (isIndex_any _ _ _).mono ?_; rintro e w3 ⟨rfl, rfl⟩)
    go_ret2
    exact ⟨rfl, rfl⟩
  go_enter Try.func14, Try.ntmps14
  go_wp2_with (go_at_call 38; refine HR.mono ?_; rintro e w3 ⟨rfl, rfl⟩)
  go_ret2
  exact ⟨rfl, rfl⟩
end Go.Proofs.Ytklbgccfcfldaaa.Wk
