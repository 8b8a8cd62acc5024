/- What the document's low answers: the lowest bytes of a number; and its Put, over words that lie in memory. -/
import Derived.Test.YtmfbjmffodnaeaaW2
import Derived.Lib.UnsafeStr
import Derived.Laws.IdiomStrings
import Derived.Maps.AppendAt
set_option linter.unusedVariables false
namespace Go.Proofs.Ytmfbjmffodnaeaa.Wk
open Go.ChangeShapes Go.WideShapes Go.ChangeAt Go.RowKit M

theorem info5 : (Try.prog.info? 5).map (fun i => (i.zero, i.size, i.bytes)) = some (some (.int .u8 0), 1, 1) := by kernel_rfl
theorem cells_snoc (l : List UInt8) (b : UInt8) : Lib.byteCells (l ++ [b]) = Lib.byteCells l ++ [.int .u8 b.toNat] := by simp [Lib.byteCells]
theorem low_cells (n k q : Nat) (h : q = n / 256 ^ k) : Lib.byteCells (low (k + 1) n) = Lib.byteCells (low k n) ++ [.int .u8 ((q : Int) % 256)] := by
  rw [low_snoc, cells_snoc, toNat_ofNat _ (by omega), h]; simp
theorem bytes_back (w : World) (base g cap : Nat) (l : List UInt8) (h : w.ownsRow base 5 1 (.slice (some ⟨g, 0, none⟩) l.length cap) l.length (Lib.byteCells l)) :
    (convert 59 9 (.slice (some ⟨g, 0, none⟩) l.length cap)).run Try.prog w = .ok (.string ⟨l.toArray⟩) w := by
  refine run_convert_bytes_back w 59 9 5 ⟨g, 0, none⟩ cap l Try.underlying59 Try.underlying5 Try.underlying9 fun j hj => ?_
  exact h.cells (g := g) rfl j _ (by simp [Lib.byteCells, List.getElem?_eq_getElem hj])

set_option maxHeartbeats 1000000 in
set_option maxRecDepth 100000 in
theorem rlow_any (n K : Nat) (w : World) (hn : n < 18446744073709551616) (hK : K ≤ 8) (hK1 : 1 ≤ K) :
    Calls Try.prog 31 #[.int .u64 n, .int .i64 K] w fun e w' => e = .returned (.string ⟨(low K n).toArray⟩) ∧ Below w.heap.size w w' := by
  obtain ⟨i0, hi, hz0, hz1, hz2⟩ := info_parts info5
  go_enter Try.func31, Try.ntmps31
  go_wp2
  go_loopw [0, 5, 6] (fun m v i wr => ∃ k q : Nat, k ≤ K ∧ i = .int .i64 k ∧ m = .int .u64 q ∧ q < 18446744073709551616 ∧ Hid (q = n / 256 ^ k) ∧ wr.ownsRow w.heap.size 5 1 v k (Lib.byteCells (low k n)) ∧ Below w.heap.size w wr)
    (fun _ _ i _ => K - (intOf i).toNat)
  case atStart => exact ⟨0, n, Nat.zero_le _, rfl, rfl, hn, Lib.hid (by simp), World.ownsRow_nil _ _ _ _, Below.refl _ _⟩
  case round =>
    obtain ⟨k, q, hk, rfl, rfl, hq, HQ, hown, hnx⟩ := hrel
    have hsize := hnx.size
    by_cases hlt : k < K
    · go_wp2_with (first
        | (at_builtin; refine wpList_append_own _ rfl _ _ 59 rfl w.heap.size 5 i0 (.int .u8 0) 1 1 Try.underlying59 hi hz0 hz1 hz2 rfl (by decide) _ _ _ rfl (hown.alloc _) ⟨wr.heap.size, 0, none⟩ 1 1 [.int .u8 ((q : Int) % 256)] rfl rfl ?c1 ?c2 ?c3 ?c4 ?c5 ?_))
      case c1 =>
        intro j u hj
        match j, hj with
        | 0, hj => simp at hj; subst hj; simp [Addr.add]
      case c2 => intro u hu; simp at hu; subst hu; rfl
      case c3 => unfold maxLen; omega
      case c4 => omega
      case c5 => simp; omega
      intro v' w1 hown' hgrow _
      have hnx' := (hnx.alloc hsize _).grown hgrow (by simp; omega) (fun q hq => (hown.lt q hq).1)
      rw [← low_cells n k q HQ.out] at hown'
      go_wp2
      go_roundw
      case rel => exact ⟨k + 1, q / 256, by omega, by go_num, by first | rfl | go_num, by omega, Lib.hid (by rw [HQ.out, Nat.div_div_eq_div_mul, Nat.pow_succ]), hown', hnx'⟩
      case measure => simp [intOf]; omega
    · obtain rfl : k = K := by omega
      obtain ⟨g, cap, hv⟩ : ∃ g cap, u5 = .slice (some ⟨g, 0, none⟩) (low k n).length cap := by
        rcases hown.2 with ⟨_, h⟩ | ⟨g3, cap3, _, h, _⟩
        · omega
        · rw [low_len]; exact ⟨g3, cap3, h⟩
      subst hv
      have hcv := bytes_back wr w.heap.size g cap (low k n) (by rw [low_len]; rw [low_len] at hown; exact hown)
      go_wp2
      go_ret
      exact ⟨rfl, hnx⟩

/-- Words as bytes, one behind the other. -/
def wordsL (xs : List Nat) : List UInt8 := xs.flatMap (low 8)
theorem wordsL_take (xs : List Nat) (k : Nat) (h : k < xs.length) : wordsL (xs.take (k + 1)) = wordsL (xs.take k) ++ low 8 xs[k] := by
  unfold wordsL; rw [List.take_succ_eq_append_getElem h, List.flatMap_append]; simp
theorem wordsL_len (xs : List Nat) : (wordsL xs).length = 8 * xs.length := by
  unfold wordsL
  induction xs with
  | nil => rfl
  | cons x xs ih => rw [List.flatMap_cons, List.length_append, ih, low_len, List.length_cons]; omega
/-- The words that a slice holds. -/
def Nums (w : World) (B : Nat) (A : Option Addr) (xs : List Nat) : Prop :=
  0 < xs.length → ∃ ad : Addr, A = some ad ∧ ad.block < B ∧ ∀ j (h : j < xs.length), w.cell? (ad.add j) = some (.int .u64 xs[j])
theorem Nums.below {w w' : World} {B : Nat} {A : Option Addr} {xs : List Nat} (h : Nums w B A xs) (hb : Below B w w') : Nums w' B A xs := by
  intro h0
  obtain ⟨ad, rfl, hB, hc⟩ := h h0
  refine ⟨ad, rfl, hB, fun j hj => ?_⟩
  have : (ad.add j).block = ad.block := by unfold Addr.add; split <;> rfl
  rw [hb.cell (by rw [this]; exact hB)]; exact hc j hj
/-- Bytes behind a text. -/
def strL (l : List UInt8) : Value := .string ⟨l.toArray⟩
theorem str_app (l m : List UInt8) : (⟨l.toArray⟩ : ByteArray) ++ ⟨m.toArray⟩ = ⟨(l ++ m).toArray⟩ := by
  apply ByteArray.ext; simp
theorem str_back (b : ByteArray) : (⟨b.data.toList.toArray⟩ : ByteArray) = b := by
  apply ByteArray.ext; simp

theorem cat_run (l m : List UInt8) (h : l.length + m.length ≤ 9223372036854775807) (w : World) : (binOp .add 9 (strL l) (.string ⟨m.toArray⟩)).run Try.prog w = .ok (strL (l ++ m)) w := by
  have h1 := run_string_add_sum (P := Try.prog) w ⟨l.toArray⟩ ⟨m.toArray⟩ (by simpa [ByteArray.size] using h)
  rw [ByteArray.mk_append_mk] at h1
  simp only [strL, binOp_string_add]
  exact h1

set_option maxHeartbeats 1000000 in
set_option maxRecDepth 100000 in
theorem rPut_any (b : ByteArray) (A : Option Addr) (c : Nat) (xs : List Nat) (w : World) (hb : b.size ≤ 33554431) (hn : xs.length ≤ 33554431) (hx : Nums w w.heap.size A xs) (hw : ∀ j (h : j < xs.length), xs[j] < 18446744073709551616) :
    Calls Try.prog 12 #[.string b, .slice A xs.length c] w fun e w' => e = .returned (strL (b.data.toList ++ wordsL xs)) ∧ Below w.heap.size w w' := by
  have HX := Lib.hid hx
  have HW := Lib.hid hw
  clear hx hw
  go_enter Try.func12, Try.ntmps12
  go_wp2
  go_loopw [0, 5] (fun s i wr => ∃ k : Nat, k ≤ xs.length ∧ i = .int .i64 k ∧ s = strL (b.data.toList ++ wordsL (xs.take k)) ∧ Below w.heap.size w wr)
    (fun _ i _ => xs.length - (intOf i).toNat)
  case atStart => exact ⟨0, Nat.zero_le _, rfl, by simp [strL, wordsL], Below.refl _ _⟩
  case round =>
    obtain ⟨k, hk, rfl, hs, hnx⟩ := hrel
    subst hs
    have hsize := hnx.size
    by_cases hlt : k < xs.length
    · obtain ⟨ad, rfl, hB, hc⟩ := HX.out (by omega)
      have hc0 := hc k hlt
      have hbl : (ad.add k).block = ad.block := by unfold Addr.add; split <;> rfl
      have hck : wr.cell? (ad.add k) = some (.int .u64 xs[k]) := (hnx.cell (by rw [hbl]; exact hB)).trans hc0
      clear hc hc0 hbl
      have hwk := HW.out k hlt
      have hcat := cat_run (b.data.toList ++ wordsL (xs.take k)) (low 8 xs[k]) (by rw [low_len, List.length_append, wordsL_len]; simp; omega)
      have HT := Lib.hid (wordsL_take xs k hlt)
      go_wp2_with (first
        | (go_at_call 31; refine (rlow_any _ 8 _ hwk (by omega) (by omega)).mono ?_; rintro e w1 ⟨rfl, b1⟩))
      go_roundw
      case rel => exact ⟨k + 1, by omega, by go_num, by rw [HT.out], hnx.trans (b1.mono hsize)⟩
      case measure => simp [intOf]; omega
    · have HE : Hid (xs.take k = xs) := Lib.hid (List.take_of_length_le (by omega))
      go_wp2
      go_ret
      exact ⟨by rw [HE.out]; rfl, hnx⟩

end Go.Proofs.Ytmfbjmffodnaeaa.Wk
