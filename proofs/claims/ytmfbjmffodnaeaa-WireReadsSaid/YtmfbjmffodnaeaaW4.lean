/- What write, Put and Chunk (the program's and the document's) answer: words and chunks as bytes. -/
import Derived.Test.YtmfbjmffodnaeaaW3
import Derived.Test.YtmfbjmffodnaeaaSh
set_option linter.unusedVariables false
namespace Go.Proofs.Ytmfbjmffodnaeaa.Wk
open Go.ChangeShapes Go.WideShapes Go.ChangeAt Go.RowKit M

/-- A builder in use that holds bytes. -/
def Bld (B b : Nat) (l : List UInt8) (w : World) : Prop := Lib.BuilderAt 63 5 B b (.pointer (some ⟨b, 0, none⟩)) (Lib.byteCells l) w

theorem grow_any (b : Nat) (m : Int) (w : World) (hb : w.heap[b]? = some (.cells #[.pointer none, .slice none 0 0] 63 (0, 0))) (h0 : 0 ≤ m) (h1 : m ≤ 281474976710656) :
    Calls Try.prog 26 #[.pointer (some ⟨b, 0, none⟩), .int .i64 m] w fun e w' => e = .returned (.tuple #[]) ∧ Bld b b [] w' ∧ Below b w w' := by
  obtain ⟨n, rfl⟩ := Int.eq_ofNat_of_zero_le h0
  exact Sh.Grow b b n w (Nat.le_refl _) hb (Nat.le_of_lt (Array.getElem?_eq_some_iff.1 hb).1) (by omega)
theorem writeS_any (B b : Nat) (l : List UInt8) (s : ByteArray) (w : World) (h : Bld B b l w) (hB : B ≤ w.heap.size) (hl : l.length + s.size ≤ 140737488355328) :
    Calls Try.prog 27 #[.pointer (some ⟨b, 0, none⟩), .string s] w fun e w' => e = .returned (.tuple #[.int .i64 s.size, .nilIface]) ∧ Bld B b (l ++ s.data.toList) w' ∧ Below B w w' := by
  refine (Sh.WriteString B b (Lib.byteCells l) s w (.inr h) (by rw [Lib.byteCells_length]; exact hl) hB).mono ?_
  rintro e w' ⟨he, h1, h2⟩
  refine ⟨he, ?_, h2⟩
  unfold Bld
  rw [Lib.byteCells_append]; exact h1
theorem string_any (B b : Nat) (l : List UInt8) (w : World) (h : Bld B b l w) (hB : B ≤ w.heap.size) :
    Calls Try.prog 29 #[.pointer (some ⟨b, 0, none⟩)] w fun e w' => e = .returned (strL l) ∧ Below B w w' :=
  Sh.String B b l w (.inr h) hB
theorem low_cells2 (n k : Nat) : Lib.byteCells (low (k + 1) n) = Lib.byteCells (low k n) ++ [.int .u8 ((n : Int) / 2 ^ (8 * k) % 256)] := by
  rw [low_cells n k _ rfl, pow256]; simp
theorem writeB_any (B b n k : Nat) (l : List UInt8) (w : World) (h : Bld B b (l ++ low k n) w) (hB : B ≤ w.heap.size) (hl : l.length + k + 1 ≤ 140737488355328) :
    Calls Try.prog 50 #[.pointer (some ⟨b, 0, none⟩), .int .u8 ((n : Int) / 2 ^ (8 * k) % 256)] w fun e w' => e = .returned .nilIface ∧ Bld B b (l ++ low (k + 1) n) w' ∧ Below B w w' := by
  refine (Sh.WriteByte B b (Lib.byteCells (l ++ low k n)) _ w (.inr h) (by rw [Lib.byteCells_length, List.length_append, low_len]; omega) hB).mono ?_
  rintro e w' ⟨he, h1, h2⟩
  refine ⟨he, ?_, h2⟩
  unfold Bld
  rw [Lib.byteCells_append, List.append_assoc, ← low_cells2, ← Lib.byteCells_append] at h1; exact h1

set_option maxHeartbeats 1000000 in
set_option maxRecDepth 100000 in
theorem write_any (B b n K : Nat) (l : List UInt8) (w : World) (h : Bld B b l w) (hB : B ≤ w.heap.size) (hl : l.length + K ≤ 140737488355328) (hn : n < 18446744073709551616) (hK : K ≤ 8) :
    Calls Try.prog 28 #[.pointer (some ⟨b, 0, none⟩), .int .u64 n, .int .i64 K] w fun e w' => e = .returned (.tuple #[]) ∧ Bld B b (l ++ low K n) w' ∧ Below B w w' := by
  go_enter Try.func28, Try.ntmps28
  go_wp2
  go_loopw [8] (fun i wr => ∃ k : Nat, k ≤ K ∧ i = .int .i64 k ∧ Bld B b (l ++ low k n) wr ∧ Below B w wr)
    (fun i _ => K - (intOf i).toNat)
  case atStart => exact ⟨0, Nat.zero_le _, rfl, by simpa [low] using h, Below.refl _ _⟩
  case round =>
    obtain ⟨k, hk, rfl, hb, hnx⟩ := hrel
    have hsize := hnx.size
    by_cases hlt : k < K
    · go_wp2_with (first
        | (go_at_call 50; refine (writeB_any B b n k l _ hb (by omega) (by omega)).mono ?_; rintro e w1 ⟨rfl, hb1, b1⟩))
      go_roundw
      case rel => exact ⟨k + 1, by omega, by go_num, hb1, hnx.trans b1⟩
      case measure => simp [intOf]; omega
    · obtain rfl : k = K := by omega
      go_wp2
      go_end0
      exact ⟨rfl, hb, hnx⟩

set_option maxHeartbeats 1000000 in
set_option maxRecDepth 100000 in
theorem put_any (b : ByteArray) (A : Option Addr) (c : Nat) (xs : List Nat) (w : World) (hb : b.size ≤ 33554431) (hn : xs.length ≤ 33554431) (hx : Nums w w.heap.size A xs) (hw : ∀ j (h : j < xs.length), xs[j] < 18446744073709551616) :
    Calls Try.prog 10 #[.string b, .slice A xs.length c] w fun e w' => e = .returned (strL (b.data.toList ++ wordsL xs)) ∧ Below w.heap.size w w' := by
  have HX := Lib.hid hx
  have HW := Lib.hid hw
  clear hx hw
  go_enter Try.func10, Try.ntmps10
  go_wp2_with (first
    | (go_at_call 26; refine (grow_any w.heap.size _ _ (heap_alloc_new w _) (by omega) (by omega)).mono ?_; rintro e w1 ⟨rfl, hb1, b1⟩)
    | (go_at_call 27; refine (writeS_any w.heap.size w.heap.size [] b _ hb1 (by have := b1.size; simp at this; omega) (by simp; omega)).mono ?_; rintro e w2 ⟨rfl, hb2, b2⟩))
  have hB1 : Below w.heap.size w w1 := ((Below.refl _ _).alloc (Nat.le_refl _) _).trans b1
  have hB2 : Below w.heap.size w w2 := hB1.trans b2
  clear b1 b2
  go_loopw [19] (fun i wr => ∃ k : Nat, k ≤ xs.length ∧ i = .int .i64 k ∧ Bld w.heap.size w.heap.size (b.data.toList ++ wordsL (xs.take k)) wr ∧ Below w.heap.size w wr)
    (fun i _ => xs.length - (intOf i).toNat)
  case atStart => exact ⟨0, Nat.zero_le _, rfl, by simpa [wordsL] using hb2, hB2⟩
  case round =>
    obtain ⟨k, hk, rfl, hbk, hnx⟩ := hrel
    have hsize := hnx.size
    clear hB1 hB2 hb1 hb2
    by_cases hlt : k < xs.length
    · obtain ⟨ad, rfl, hBa, hc⟩ := HX.out (by omega)
      have hc0 := hc k hlt
      have hbl : (ad.add k).block = ad.block := by unfold Addr.add; split <;> rfl
      have hck : wr.cell? (ad.add k) = some (.int .u64 xs[k]) := (hnx.cell (by rw [hbl]; exact hBa)).trans hc0
      clear hc hc0 hbl
      have hwk := HW.out k hlt
      have HT := Lib.hid (wordsL_take xs k hlt)
      have hlen : (b.data.toList ++ wordsL (xs.take k)).length + 8 ≤ 140737488355328 := by rw [List.length_append, wordsL_len]; simp; omega
      go_wp2_with (first
        | (go_at_call 28; refine (write_any w.heap.size w.heap.size _ 8 _ _ hbk hsize hlen hwk (by omega)).mono ?_; rintro e w3 ⟨rfl, hb3, b3⟩))
      go_roundw
      case rel => exact ⟨k + 1, by omega, by go_num, by rw [HT.out, ← List.append_assoc]; exact hb3, hnx.trans b3⟩
      case measure => simp [intOf]; omega
    · have HE : Hid (xs.take k = xs) := Lib.hid (List.take_of_length_le (by omega))
      rw [HE.out] at hbk
      go_wp2_with (go_at_call 29; refine (string_any w.heap.size w.heap.size _ _ hbk hsize).mono ?_; rintro e w3 ⟨rfl, b3⟩)
      go_ret
      exact ⟨rfl, hnx.trans b3⟩

/-- A chunk's bytes. -/
def chunkL (t c : List UInt8) : List UInt8 := t ++ low 4 c.length ++ c ++ low 4 (sumL (t ++ c))
def chunkS (t c : ByteArray) : ByteArray := if tagB t then (if c.size ≤ 16777216 then ⟨(chunkL t.data.toList c.data.toList).toArray⟩ else ⟨#[]⟩) else ⟨#[]⟩
def chunkE (t c : ByteArray) : Int := if tagB t then (if c.size ≤ 16777216 then 0 else 21) else 1
theorem ret_si {a b : ByteArray} {x y : Int} (h : a = b) (g : x = y) : Ending.returned (.tuple #[.string a, .int .i64 x]) = .returned (.tuple #[.string b, .int .i64 y]) := by rw [h, g]
theorem tagB_size (t : ByteArray) (h : tagB t = true) : t.size = 4 := by unfold tagB at h; simp at h; exact h.1

/-- The call's own builder holds these bytes; below it all is as it was. -/
def Bst (w0 : World) (l : List UInt8) (w : World) : Prop := Bld w0.heap.size w0.heap.size l w ∧ Below w0.heap.size w0 w
theorem Bst.alloc {w0 w : World} {l : List UInt8} (h : Bst w0 l w) (o : Obj) : Bst w0 l (w.alloc o) := by
  refine ⟨?_, h.2.alloc h.2.size _⟩
  obtain ⟨hB, v, hbk, hown, hne⟩ := h.1
  have hlt : w0.heap.size < w.heap.size := (Array.getElem?_eq_some_iff.1 hbk).1
  exact ⟨hB, v, (Below.heap_alloc w o _ hlt).trans hbk, hown.alloc o, hne⟩
theorem grow_st (w0 : World) (m : Int) (h0 : 0 ≤ m) (h1 : m ≤ 281474976710656) :
    Calls Try.prog 26 #[.pointer (some ⟨w0.heap.size, 0, none⟩), .int .i64 m] (w0.alloc (.cells #[.pointer none, .slice none 0 0] 63)) fun e w' => e = .returned (.tuple #[]) ∧ Bst w0 [] w' :=
  (grow_any w0.heap.size m _ (heap_alloc_new w0 _) h0 h1).mono fun _ _ ⟨a, b, c⟩ => ⟨a, b, ((Below.refl _ _).alloc (Nat.le_refl _) _).trans c⟩
theorem writeS_st (w0 : World) (l : List UInt8) (s : ByteArray) (w : World) (h : Bst w0 l w) (hl : l.length + s.size ≤ 140737488355328) :
    Calls Try.prog 27 #[.pointer (some ⟨w0.heap.size, 0, none⟩), .string s] w fun e w' => e = .returned (.tuple #[.int .i64 s.size, .nilIface]) ∧ Bst w0 (l ++ s.data.toList) w' :=
  (writeS_any _ _ l s w h.1 h.2.size hl).mono fun _ _ ⟨a, b, c⟩ => ⟨a, b, h.2.trans c⟩
theorem write_st (w0 : World) (n K : Nat) (l : List UInt8) (w : World) (h : Bst w0 l w) (hl : l.length + K ≤ 140737488355328) (hn : n < 18446744073709551616) (hK : K ≤ 8) :
    Calls Try.prog 28 #[.pointer (some ⟨w0.heap.size, 0, none⟩), .int .u64 n, .int .i64 K] w fun e w' => e = .returned (.tuple #[]) ∧ Bst w0 (l ++ low K n) w' :=
  (write_any _ _ n K l w h.1 h.2.size hl hn hK).mono fun _ _ ⟨a, b, c⟩ => ⟨a, b, h.2.trans c⟩
theorem string_st (w0 : World) (l : List UInt8) (w : World) (h : Bst w0 l w) :
    Calls Try.prog 29 #[.pointer (some ⟨w0.heap.size, 0, none⟩)] w fun e w' => e = .returned (strL l) ∧ Below w0.heap.size w0 w' :=
  (string_any _ _ l w h.1 h.2.size).mono fun _ _ ⟨a, c⟩ => ⟨a, h.2.trans c⟩
theorem sumOf_new (a b : ByteArray) (w : World) (ha : a.size ≤ maxLen) (hb : b.size ≤ maxLen) :
    Calls Try.prog 32 #[.slice (some ⟨w.heap.size, 0, none⟩) 2 2] (w.alloc (.cells #[.string a, .string b] 9)) fun e w' => e = .returned (.int .u32 (sumL (a.data.toList ++ b.data.toList))) ∧ w.alloc (.cells #[.string a, .string b] 9) = w' :=
  sumOf_2 _ a b _ (cell_new w _ _ 0) (cell_new w _ _ 1) ha hb
theorem wrap_sum (l : List UInt8) : IntKind.u64.wrap ((sumL l : Nat) : Int) = ((sumL l : Nat) : Int) := by have := sumL_lt l; rw [IntKind.wrap_u64]; omega

set_option maxHeartbeats 1000000 in
set_option maxRecDepth 100000 in
theorem chunk_any (t c : ByteArray) (w : World) (hc : c.size ≤ maxLen) :
    Calls Try.prog 15 #[.string t, .string c] w fun e w' => e = .returned (.tuple #[.string (chunkS t c), .int .i64 (chunkE t c)]) ∧ Below w.heap.size w w' := by
  have hcm := hc
  unfold maxLen at hc
  cases ht : tagB t
  · have HT := Lib.hid ht
    go_enter Try.func15, Try.ntmps15
    go_wp2_with (go_at_call 33; refine (isTag_any _ _).mono ?_; rintro e w' ⟨rfl, rfl⟩)
    go_ret2
    exact ⟨ret_si (by unfold chunkS; rw [HT.out]; rfl) (by unfold chunkE; rw [HT.out]; rfl), Below.refl _ _⟩
  · have HT := Lib.hid ht
    by_cases hs : c.size ≤ 16777216
    · have ht4 := tagB_size t ht
      have hws := wrap_sum (t.data.toList ++ c.data.toList)
      have hsl := sumL_lt (t.data.toList ++ c.data.toList)
      go_enter Try.func15, Try.ntmps15
      go_wp2_with (first
        | (go_at_call 33; refine (isTag_any _ _).mono ?_; rintro e w' ⟨rfl, rfl⟩)
        | (go_at_call 26; refine (grow_st w _ (by omega) (by omega)).mono ?_; rintro e w1 ⟨rfl, hb1⟩))
      refine (writeS_st w [] t _ hb1 (by simp; omega)).mono ?_
      rintro e w2 ⟨rfl, hb2⟩
      clear hb1
      go_wp2_with fail
      refine (write_st w c.size 4 _ _ hb2 (by simp; omega) (by omega) (by omega)).mono ?_
      rintro e w3 ⟨rfl, hb3⟩
      clear hb2
      go_wp2_with fail
      refine (writeS_st w _ c _ hb3 (by simp [low_len]; omega)).mono ?_
      rintro e w4 ⟨rfl, hb4⟩
      clear hb3
      go_wp2_with fail
      refine (sumOf_new t c _ (by unfold maxLen; omega) hcm).mono ?_
      rintro e w5 ⟨rfl, rfl⟩
      have hb5 := hb4.alloc (.cells #[.string t, .string c] 9)
      clear hb4
      go_wp2_with fail
      refine (write_st w _ 4 _ _ hb5 (by simp [low_len]; omega) (by omega) (by omega)).mono ?_
      rintro e w6 ⟨rfl, hb6⟩
      clear hb5
      go_wp2_with fail
      refine (string_st w _ _ hb6).mono ?_
      rintro e w7 ⟨rfl, hb7⟩
      clear hb6
      go_wp2
      go_ret2
      refine ⟨ret_si ?_ (by unfold chunkE; rw [HT.out, if_pos rfl, if_pos hs]), hb7⟩
      unfold chunkS
      rw [HT.out, if_pos rfl, if_pos hs]
      unfold chunkL
      simp
    · go_enter Try.func15, Try.ntmps15
      go_wp2_with (go_at_call 33; refine (isTag_any _ _).mono ?_; rintro e w' ⟨rfl, rfl⟩)
      all_goals first | (exfalso; omega) | skip
      go_ret2
      exact ⟨ret_si (by unfold chunkS; rw [HT.out, if_pos rfl, if_neg hs]) (by unfold chunkE; rw [HT.out, if_pos rfl, if_neg hs]), Below.refl _ _⟩

set_option maxHeartbeats 1000000 in
set_option maxRecDepth 100000 in
theorem rchunk_any (t c : ByteArray) (w : World) (hc : c.size ≤ maxLen) :
    Calls Try.prog 16 #[.string t, .string c] w fun e w' => e = .returned (.tuple #[.string (chunkS t c), .int .i64 (chunkE t c)]) ∧ Below w.heap.size w w' := by
  unfold maxLen at hc
  cases ht : tagB t
  · have HT := Lib.hid ht
    go_enter Try.func16, Try.ntmps16
    go_wp2_with (go_at_call 34; refine (rTag_any _ _).mono ?_; rintro e w' ⟨rfl, rfl⟩)
    go_ret2
    exact ⟨ret_si (by unfold chunkS; rw [HT.out]; rfl) (by unfold chunkE; rw [HT.out]; rfl), Below.refl _ _⟩
  · have HT := Lib.hid ht
    by_cases hs : c.size ≤ 16777216
    · have ht4 := tagB_size t ht
      have hws := wrap_sum (t.data.toList ++ c.data.toList)
      have hsl := sumL_lt (t.data.toList ++ c.data.toList)
      have hl1 : (low 4 c.size).length = 4 := low_len _ _
      have hl3 : (low 4 (sumL (t.data.toList ++ c.data.toList))).length = 4 := low_len _ _
      go_enter Try.func16, Try.ntmps16
      go_wp2_with (first
        | (go_at_call 34; refine (rTag_any _ _).mono ?_; rintro e w' ⟨rfl, rfl⟩))
      refine (rlow_any c.size 4 _ (by omega) (by omega) (by omega)).mono ?_
      rintro e w1 ⟨rfl, b1⟩
      go_wp2_with fail
      refine (rsum_any (t ++ c) _ (by unfold maxLen; rw [ByteArray.size_append]; omega)).mono ?_
      rintro e w2 ⟨rfl, rfl⟩
      go_wp2_with fail
      refine (rlow_any (sumL (t.data.toList ++ c.data.toList)) 4 _ (by omega) (by omega) (by omega)).mono ?_
      rintro e w3 ⟨rfl, b3⟩
      go_wp2
      all_goals first | (exfalso; omega) | skip
      go_ret2
      refine ⟨ret_si ?_ (by unfold chunkE; rw [HT.out, if_pos rfl, if_pos hs]), b1.trans (b3.mono b1.size)⟩
      unfold chunkS
      rw [HT.out, if_pos rfl, if_pos hs]
      unfold chunkL
      apply ByteArray.ext
      simp
    · go_enter Try.func16, Try.ntmps16
      go_wp2_with (go_at_call 34; refine (rTag_any _ _).mono ?_; rintro e w' ⟨rfl, rfl⟩)
      all_goals first | (exfalso; omega) | skip
      go_ret2
      exact ⟨ret_si (by unfold chunkS; rw [HT.out, if_pos rfl, if_neg hs]) (by unfold chunkE; rw [HT.out, if_pos rfl, if_neg hs]), Below.refl _ _⟩
end Go.Proofs.Ytmfbjmffodnaeaa.Wk
