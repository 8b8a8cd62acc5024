/- The function that Roots gives. -/
import Derived.Test.YtklbgccfcfldaaaE9
set_option linter.unusedVariables false
namespace Go.Proofs.Ytklbgccfcfldaaa.Wk
open Go.ChangeShapes Go.WideShapes Go.ChangeAt Go.RowKit Go.Shelf M
attribute [local go_sem] Oper.semAt_some

def encR (x : Ow) : Array Value := #[.int .u64 x.1]
def preR (s : Hp) : Nat → List Int
  | 0 => []
  | 1 => s.spec
  | 2 => s.spec ++ s.cls
  | 3 => s.spec ++ s.cls ++ s.stack
  | _ => roots s
theorem preR_succ (s : Hp) (k : Nat) (h : k < 4) : preR s (k + 1) = preR s k ++ rowL s k := by
  rcases (by omega : k = 0 ∨ k = 1 ∨ k = 2 ∨ k = 3) with rfl | rfl | rfl | rfl <;> simp [preR, rowL, roots]
theorem index129 (a0 a1 a2 a3 : Value) (W : World) (k : Nat) (h : k < 4) :
    (Instr.index 129 (.agg #[a0, a1, a2, a3]) (.int .i64 (k : Int))).run Try.prog W = .ok (if k = 0 then a0 else if k = 1 then a1 else if k = 2 then a2 else a3) W := by
  obtain ⟨i0, hi, hz0, hz1, hz2⟩ := info_parts (show (Try.prog.info? 31).map (fun i => (i.zero, i.size, i.bytes)) = some (some (.slice none 0 0), 1, 24) by kernel_rfl)
  rcases (by omega : k = 0 ∨ k = 1 ∨ k = 2 ∨ k = 3) with rfl | rfl | rfl | rfl
  all_goals simp [Instr.index, run_underlying Try.underlying129, asIntOf, sizeOf, typeInfo, hi, hz1, part, isAgg, run_underlying Try.underlying31]
theorem index_row (p : Nat) (g : Gh) (W : World) (k : Nat) (h : k < 4) : (Instr.index 129 (rootsV p g) (.int .i64 (k : Int))).run Try.prog W = .ok (rowV p g k) W := by
  unfold rootsV
  rw [index129 _ _ _ _ W k h]
  rcases (by omega : k = 0 ∨ k = 1 ∨ k = 2 ∨ k = 3) with rfl | rfl | rfl | rfl <;> rfl
/-- A row that lies below B. -/
def RowOk (B : Nat) (W : World) (v : Value) (L : List Int) : Prop := ∃ a cap, v = .slice a L.length cap ∧ ∀ j x, L[j]? = some x → ∃ b off, a = some ⟨b, off, none⟩ ∧ b < B ∧ W.cell? ⟨b, off + j, none⟩ = some (.int .u64 x)
theorem getD_some {l : List Int} {j : Nat} {x : Int} (h : l[j]? = some x) : l.getD j 0 = x := by rw [List.getD_eq_getElem?_getD, h]; rfl
theorem row_lt {l : List Int} {j : Nat} {x : Int} (h : l[j]? = some x) : j < l.length := (List.getElem?_eq_some_iff.1 h).1
theorem rowOk {own : Own} {W : World} {p : Nat} {s : Hp} {g : Gh} {B : Nat} (h : Rep own W p s g) (hB : ∀ k, own k ≠ none → k < B) (k : Nat) (hk : k < 4) : RowOk B W (rowV p g k) (rowL s k) := by
  have hp : p < B := hB p (by rw [h.hown]; simp)
  rcases (by omega : k = 0 ∨ k = 1 ∨ k = 2 ∨ k = 3) with rfl | rfl | rfl | rfl
  · refine ⟨some ⟨p, 29, none⟩, 64, by simp [rowV, rowL, h.w0.spec], fun j x hx => ⟨p, 29, rfl, hp, ?_⟩⟩
    have hl := row_lt hx
    have hlen : s.spec.length = 64 := h.w0.spec
    rw [h.special j (by simp only [rowL] at hl; omega)]
    rw [show s.spec.getD j 0 = x from getD_some hx]
  · refine ⟨some ⟨p, 93, none⟩, 4096, by simp [rowV, rowL, h.w0.cls], fun j x hx => ⟨p, 93, rfl, hp, ?_⟩⟩
    have hl := row_lt hx
    have hlen : s.cls.length = 4096 := h.w0.cls
    rw [h.cls j (by simp only [rowL] at hl; omega)]
    rw [show s.cls.getD j 0 = x from getD_some hx]
  · obtain ⟨a, c, e, e2, e3⟩ := h.krow.cells
    refine ⟨a, c, e, fun j x hx => ?_⟩
    have hl := row_lt hx
    simp only [rowL] at hx hl
    obtain ⟨b, rfl, hb⟩ := e2 (by omega)
    obtain ⟨b', q, hc⟩ := e3 j (.int .u64 x) (by simp [ocells, hx])
    cases q
    exact ⟨b, 0, rfl, hB b (by rw [h.kown b hb]; simp), by rw [Nat.zero_add]; exact hc⟩
  · obtain ⟨a, c, e, e2, e3⟩ := h.qrow.cells
    refine ⟨a, c, e, fun j x hx => ?_⟩
    have hl := row_lt hx
    simp only [rowL] at hx hl
    obtain ⟨b, rfl, hb⟩ := e2 (by omega)
    obtain ⟨b', q, hc⟩ := e3 j (.int .u64 x) (by simp [ocells, hx])
    cases q
    exact ⟨b, 0, rfl, hB b (by rw [h.qown b hb]; simp), by rw [Nat.zero_add]; exact hc⟩
theorem RowOk.below {B : Nat} {W W' : World} {v : Value} {L : List Int} (h : RowOk B W v L) (hb : Below B W W') : RowOk B W' v L := by
  obtain ⟨a, c, e, h2⟩ := h
  refine ⟨a, c, e, fun j x hx => ?_⟩
  obtain ⟨b, off, e1, e2, e3⟩ := h2 j x hx
  exact ⟨b, off, e1, e2, (cell_of_heap (hb.block b e2) _).trans e3⟩
theorem rowL_bd {s : Hp} (h : Wf0 s) (k : Nat) {x : Int} (hx : x ∈ rowL s k) : 0 ≤ x ∧ x ≤ 18446744073709551615 := by
  refine h.roots x ?_
  match k with
  | 0 => simp only [rowL] at hx; simp [hx]
  | 1 => simp only [rowL] at hx; simp [hx]
  | 2 => simp only [rowL] at hx; simp [hx]
  | _ + 3 => simp only [rowL] at hx; simp [hx]
theorem preR_len (s : Hp) (k j : Nat) (hk : k < 4) (hj : j < (rowL s k).length) : (preR s k).length + j < (roots s).length := by
  rcases (by omega : k = 0 ∨ k = 1 ∨ k = 2 ∨ k = 3) with rfl | rfl | rfl | rfl <;> simp only [preR, rowL, roots, List.length_append, List.length_nil] at * <;> omega
theorem rowL_len {s : Hp} (h : Wf0 s) (k : Nat) : (rowL s k).length ≤ 1099511627776 := by
  match k with
  | 0 => simp only [rowL]; rw [h.spec]; omega
  | 1 => simp only [rowL]; rw [h.cls]; omega
  | 2 => simp only [rowL]; have := h.stack; omega
  | _ + 3 => simp only [rowL]; exact h.queue

set_option maxRecDepth 100000 in
set_option maxHeartbeats 4000000 in
theorem roots1_stops (own : Own) (w : World) (p : Nat) (s : Hp) (g : Gh) (h : Rep own w p s g) (B b1 n : Nat) (hn : 1 ≤ n) (hB : ∀ k, own k ≠ none → k < B)
    (hBw : B ≤ w.heap.size) (hb1 : w.heap[b1]? = some (.cells #[.pointer (some ⟨p, 0, none⟩)] 25 (0, 0))) :
    SeqStopsK Fence.wide n Try.prog 59 #[.pointer (some ⟨b1, 0, none⟩)] encR (Below B) (fun ys => ys.map (fun y : Ow => y.1) = roots s) (fun _ => True) (roots s).length w := fun l J Jx W hW hJ hJx hY hJ0 => by
  have c1 : W.heap[b1]? = _ := (hW.block b1 (blk_lt hb1)).trans hb1
  have hR := h.below hW (Nat.le_refl _)
  have HO := roots_any own W p s g hR
  have d1 := cell_blk c1 0
  show CallsIn Fence.wide n Try.prog 59 #[.func (.yield l) #[] #[], .pointer (some ⟨b1, 0, none⟩)] W _
  refine callsIn_of_wp Try.func59 rfl trivial ?_ rfl
  simp only [Try.ntmps59, List.size_toArray, List.length_cons, List.length_nil, Nat.reduceAdd, Nat.reduceSub, Array.replicate_succ, Array.replicate_zero, List.push_toArray, List.append_toArray, List.nil_append, List.cons_append]
  have HJ := Lib.hid hJ
  have HY := Lib.hid hY
  have HJ0 := Lib.hid hJ0
  have HRep := Lib.hid hR
  have hBW : B ≤ W.heap.size := Nat.le_trans hBw hW.size
  have hix := fun k hk X => index_row p g X k hk
  have HIX := Lib.hid hix
  generalize hrv : rootsV p g = rv at *
  clear hJ hY hJx hJ0 hb1 c1 h hR hW hix
  gi_wp2_with (refine ⟨trivial, ?_⟩; gi_at_call 60; refine (callsIn_wide.2 HO).mono ?_; rintro e W1 ⟨rfl, hb⟩)
  have hJ1 : J [] W1 := HJ.out _ _ _ none HJ0.out (grown_of hb) (fun r e => by cases e)
  have hK1 : Below B W W1 := hb.mono hBW
  have hA1 : W.heap.size ≤ W1.heap.size := hb.size
  gi_loopw [9] (fun i wr => ∃ (k : Nat) (pre : List Ow), k ≤ 4 ∧ i = .int .i64 k ∧ pre.map (fun y => y.1) = preR s k ∧ J pre wr ∧ Below B W wr) (fun i _ => 4 - (intOf i).toNat)
  case atStart => exact ⟨0, [], Nat.zero_le _, rfl, rfl, hJ1, hK1⟩
  case round =>
    obtain ⟨k, pre0, hk, rfl, hpre0, hJs, hbw⟩ := hrel
    by_cases hlt : k < 4
    · have hlt2 : (k : Int) < 4 := by omega
      obtain ⟨a, cap, hv, hcells⟩ := rowOk HRep.out hB k hlt
      have hX := HIX.out k hlt
      rw [hv] at hX
      have hLl := rowL_len HRep.out.w0 k
      obtain ⟨L, hL⟩ : ∃ L, rowL s k = L := ⟨_, rfl⟩
      rw [hL] at hX hcells hLl
      have HC := Lib.hid hcells
      clear hcells hv
      have HLb := Lib.hid (fun x (hx : x ∈ L) => rowL_bd HRep.out.w0 k (by rw [hL]; exact hx))
      have HPL := Lib.hid (fun j (hj : j < L.length) => preR_len s k j hlt (by rw [hL]; exact hj))
      have hsucc := preR_succ s k hlt
      rw [hL] at hsucc
      have HSC := Lib.hid hsucc
      have HHL := Lib.hid hL
      have hpl0 : pre0.length = (preR s k).length := by rw [← hpre0]; simp
      have HPR := Lib.hid hpre0
      have HBW := Lib.hid hbw
      have HJS := Lib.hid hJs
      clear hsucc hL hpre0 hbw hJs
      gi_wp2
      gi_loopw [14] (fun iv w2 => ∃ (j : Nat) (pre : List Ow), j ≤ L.length ∧ iv = .int .i64 j ∧ pre.map (fun y => y.1) = preR s k ++ L.take j ∧ J pre w2 ∧ Below B W w2) (fun iv _ => L.length - (intOf iv).toNat)
      case atStart => exact ⟨0, pre0, Nat.zero_le _, rfl, by rw [HPR.out]; simp, HJS.out, HBW.out⟩
      case round =>
        obtain ⟨j, pre, hj, rfl, hpre, hJ2, hb2⟩ := hrel
        by_cases hjl : j < L.length
        · have hjl2 : (j : Int) < L.length := by omega
          obtain ⟨x, hx⟩ : ∃ x, L[j]? = some x := ⟨L[j], by simp [hjl]⟩
          have hxb := HLb.out x (List.mem_of_getElem? hx)
          obtain ⟨b, off, hab, hbB, hcell⟩ := HC.out j x hx
          subst hab
          have hcell2 := (cell_of_heap (hb2.block b hbB) (off + j)).trans hcell
          obtain ⟨fn, tmps, assign, body, hy, hR⟩ := HY.out pre ⟨x, hxb⟩ _ hJ2 (by
            have h1 : pre.length = (preR s k ++ L.take j).length := by rw [← hpre]; simp
            have h2 := HPL.out j hjl
            rw [h1, List.length_append, List.length_take]; omega)
          dsimp only [encR] at hy
          gi_wp2
          refine hR.mono ?_
          rintro e W3 (⟨rfl, hJ3, hk3⟩ | ⟨rfl, hJx3⟩)
          · gi_wp2
            go_roundw
            case rel => exact ⟨j + 1, pre ++ [⟨x, hxb⟩], by omega, by simp, by rw [List.map_append, hpre, List.take_add_one, hx]; simp, hJ3, hb2.trans hk3⟩
            case measure => simp only [intOf]; omega
          · gi_wp2
            refine bodyPost_ret (results_none rfl _ _ _) rfl ?_
            exact ⟨⟨_, rfl⟩, .inr ⟨_, trivial, hJx3⟩⟩
        · have hje : j = L.length := by omega
          subst hje
          gi_wp2
          go_roundw
          case rel => exact ⟨k + 1, pre, by omega, by simp, by rw [hpre, HSC.out, List.take_length], hJ2, hb2⟩
          case measure => simp only [intOf]; omega
    · obtain rfl : k = 4 := by omega
      gi_wp2
      go_end0
      exact ⟨⟨_, rfl⟩, .inl ⟨_, hpre0, hJs⟩⟩
end Go.Proofs.Ytklbgccfcfldaaa.Wk
