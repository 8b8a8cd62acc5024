/- An object's oops, one after another: the function that trace.Oops gives. -/
import Derived.RangeFuncNested
import Derived.RangeFuncBound
import Derived.RangeFuncCalls
import Derived.RangeFuncLeaves
import Derived.Shelf.Abstract
import Derived.Shelf.RegionOpen
import Derived.OwnWalkIn
import Derived.TacticsInMore
import Derived.LoopNIn
import Derived.LoopIn
import Derived.Test.YtklbgccfcfldaaaE4
import Derived.Test.YtklbgccfcfldaaaB8
import Derived.Test.YtklbgccfcfldaaaB5
set_option linter.unusedVariables false
namespace Go.Proofs.Ytklbgccfcfldaaa.Wk
open Go.ChangeShapes Go.WideShapes Go.ChangeAt Go.RowKit Go.Shelf M
attribute [local go_sem] Oper.semAt_some

/-- A word. -/
abbrev Ow := { x : Int // 0 ≤ x ∧ x ≤ 18446744073709551615 }
def encP (x : Nat × Ow) : Array Value := #[.int .i64 (x.1 : Int), .int .u64 x.2.1]
def upto {α : Type} (f : Nat → α) (k : Nat) : List α := (List.range k).map f
theorem upto_succ {α : Type} (f : Nat → α) (k : Nat) : upto f (k + 1) = upto f k ++ [f k] := by simp [upto, List.range_succ]
theorem upto_length {α : Type} (f : Nat → α) (k : Nat) : (upto f k).length = k := by simp [upto]
/-- The word in place i of the oops of the object at a. -/
def slotW (s : Hp) (hm : ∀ i, 0 ≤ s.mem i ∧ s.mem i ≤ 18446744073709551615) (a i : Nat) : Nat × Ow := (i, ⟨s.mem (a + 2 + i), hm _⟩)
def Kps (B b1 b2 : Nat) (W W' : World) : Prop := Below B W W' ∧ W'.heap[b1]? = W.heap[b1]? ∧ W'.heap[b2]? = W.heap[b2]?
theorem grown_of {W W' : World} (h : Below W.heap.size W W') : W.grownBy W' none := ⟨h.os, h.tape, h.output, h.size, fun k hk _ => h.block k hk⟩

set_option maxRecDepth 100000 in
set_option maxHeartbeats 4000000 in
theorem oops1_stops (own : Own) (w : World) (p : Nat) (s : Hp) (g : Gh) (h : Rep own w p s g) (hw : Wf s) (o : Int) (h0 : 0 ≤ o) (h2 : o ≤ 18446744073709551615) (ho : isOb s o = true) (B b1 b2 n : Nat) (hn : 1 ≤ n) (hB : ∀ k, own k ≠ none → k < B)
    (hBw : B ≤ w.heap.size) (hb1 : w.heap[b1]? = some (.cells #[.pointer (some ⟨p, 0, none⟩)] 25 (0, 0))) (hb2 : w.heap[b2]? = some (.cells #[.int .u64 o] 33 (0, 0))) :
    SeqStopsK Fence.wide n Try.prog 78 #[.pointer (some ⟨b1, 0, none⟩), .pointer (some ⟨b2, 0, none⟩)] encP (Kps B b1 b2) (fun ys => ys = upto (slotW s hw.mem (atO o)) (nOops s (atO o))) (fun _ => True) (nOops s (atO o)) w := fun l J Jx W hW hJ hJx hY hJ0 => by
  have c1 : W.heap[b1]? = _ := (hW.block b1 (blk_lt hb1)).trans hb1
  have c2 : W.heap[b2]? = _ := (hW.block b2 (blk_lt hb2)).trans hb2
  have hR := h.below hW (Nat.le_refl _)
  have HO := oopsN_y own W p s g hR hw o h0 h2 ho
  have d1 := cell_blk c1 0
  have d2 := cell_blk c2 0
  show CallsIn Fence.wide n Try.prog 78 #[.func (.yield l) #[] #[], .pointer (some ⟨b1, 0, none⟩), .pointer (some ⟨b2, 0, none⟩)] W _
  refine callsIn_of_wp Try.func78 rfl trivial ?_ rfl
  simp only [Try.ntmps78, List.size_toArray, List.length_cons, List.length_nil, Nat.reduceAdd, Nat.reduceSub, Array.replicate_succ, Array.replicate_zero, List.push_toArray, List.append_toArray, List.nil_append, List.cons_append]
  have HJ := Lib.hid hJ
  have HY := Lib.hid hY
  have HH := Lib.hid h
  have HC := Lib.hid (And.intro c1 c2)
  have HJ0 := Lib.hid hJ0
  have HRep := Lib.hid hR
  have HWW := Lib.hid hW
  clear hJ hY hJx hJ0 hb1 hb2 c1 c2 h hR hW
  obtain ⟨N, hN⟩ : ∃ N, nOops s (atO o) = N := ⟨_, rfl⟩
  rw [hN] at HO
  have hS : ∀ X i, Rep own X p s g → i < N → Calls Try.prog 15 #[.pointer (some ⟨p, 0, none⟩), .int .u64 o, .int .i64 (i : Int)] X fun e w' => e = .returned (.tuple #[.int .u64 (s.mem (atO o + 2 + i)), .int .i64 0]) ∧ Below X.heap.size X w' := fun X i hX hi => slot_y own X p s g hX hw o h0 h2 ho i (by omega)
  have hNb : N ≤ 4194304 := by
    have q1 := nOops_le hw (isOb_at hw ho).2
    have q2 := (hw.st _ (isOb_at hw ho).2).2.1
    have q3 := hw.n
    omega
  have HS := Lib.hid hS
  have HN := Lib.hid hN
  clear hS hN
  have hBW : B ≤ W.heap.size := Nat.le_trans hBw HWW.out.size
  gi_wp2_with (refine ⟨trivial, ?_⟩; gi_at_call 79; refine (callsIn_wide.2 HO).mono ?_; rintro e W1 ⟨rfl, hb⟩)
  have hJ1 : J (upto (slotW s hw.mem (atO o)) 0) W1 := HJ.out _ _ _ none HJ0.out (grown_of hb) (fun r e => by cases e)
  have hK1 : Below B W W1 ∧ W1.heap[b1]? = W.heap[b1]? ∧ W1.heap[b2]? = W.heap[b2]? := ⟨hb.mono hBW, hb.block _ (blk_lt HC.out.1), hb.block _ (blk_lt HC.out.2)⟩
  have hA1 : W.heap.size ≤ W1.heap.size := hb.size
  gi_loopw [16] (fun i wr => ∃ k : Nat, k ≤ N ∧ i = .int .i64 k ∧ J (upto (slotW s hw.mem (atO o)) k) wr ∧ Below B W wr ∧ wr.heap[b1]? = W.heap[b1]? ∧ wr.heap[b2]? = W.heap[b2]?) (fun i _ => N - (intOf i).toNat)
  case atStart => exact ⟨0, Nat.zero_le _, rfl, hJ1, hK1⟩
  case round =>
    obtain ⟨k, hk, rfl, hJs, hbw, hw1, hw2⟩ := hrel
    have e1 := cell_blk (hw1.trans HC.out.1) 0
    have e2 := cell_blk (hw2.trans HC.out.2) 0
    by_cases hlt : k < N
    · have HSk := HS.out wr k (HRep.out.low hB hbw) hlt
      have hlt2 : (k : Int) < N := by omega
      have hround : ∀ W2, Below wr.heap.size wr W2 → W2.cell? ⟨b1, 0, none⟩ = some (.pointer (some ⟨p, 0, none⟩)) ∧ YieldAt Fence.wide (n - 1) Try.prog l #[.int .i64 (k : Int), .int .u64 (s.mem (atO o + 2 + k))] W2 fun e W' =>
          (e = .returned (.bool true) ∧ J (upto (slotW s hw.mem (atO o)) (k + 1)) W' ∧ Below B W W' ∧ W'.heap[b1]? = W.heap[b1]? ∧ W'.heap[b2]? = W.heap[b2]?) ∨ (e = .returned (.bool false) ∧ Jx (upto (slotW s hw.mem (atO o)) (k + 1)) W') := fun W2 hb2 => by
        have q1 : wr.heap[b1]? = _ := hw1.trans HC.out.1
        have q2 : wr.heap[b2]? = _ := hw2.trans HC.out.2
        have r1 := hb2.block _ (blk_lt q1)
        have r2 := hb2.block _ (blk_lt q2)
        refine ⟨cell_blk (r1.trans q1) 0, ?_⟩
        have hJ2 := HJ.out _ _ _ none hJs (grown_of hb2) (fun r e => by cases e)
        have hy := HY.out _ (slotW s hw.mem (atO o) k) W2 hJ2 (by rw [upto_length, HN.out]; exact hlt)
        obtain ⟨fn, tmps, assign, body, y1, y2⟩ := hy
        refine ⟨fn, tmps, assign, body, y1, y2.mono ?_⟩
        rintro e W3 (⟨rfl, a1, a2, a3, a4⟩ | ⟨rfl, a1⟩)
        · have hBr : B ≤ wr.heap.size := Nat.le_trans hBW hbw.size
          exact .inl ⟨rfl, by rw [upto_succ]; exact a1, (hbw.trans (hb2.mono hBr)).trans a2, a3.trans (r1.trans hw1), a4.trans (r2.trans hw2)⟩
        · exact .inr ⟨rfl, by rw [upto_succ]; exact a1⟩
      gi_wp2_with (refine ⟨trivial, ?_⟩; gi_at_call 15; refine (callsIn_wide.2 HSk).mono ?_; rintro e W2 ⟨rfl, hb2⟩; obtain ⟨e3, fn, tmps, assign, body, hy, hR⟩ := hround W2 hb2)
      refine hR.mono ?_
      rintro e W3 (⟨rfl, hJ3, hk3⟩ | ⟨rfl, hJx3⟩)
      · gi_wp2
        go_roundw
        case rel => exact ⟨k + 1, by omega, by simp, hJ3, hk3⟩
        case measure => simp only [intOf]; omega
      · gi_wp2
        refine bodyPost_ret (results_none rfl _ _ _) rfl ?_
        exact ⟨⟨_, rfl⟩, .inr ⟨_, trivial, hJx3⟩⟩
    · obtain rfl : k = N := by omega
      gi_wp2
      go_end0
      exact ⟨⟨_, rfl⟩, .inl ⟨_, by rw [HN.out], hJs⟩⟩
end Go.Proofs.Ytklbgccfcfldaaa.Wk
