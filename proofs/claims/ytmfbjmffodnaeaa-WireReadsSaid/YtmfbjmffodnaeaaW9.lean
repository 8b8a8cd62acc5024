/- What Chunks answers (the program's and the document's): all chunks of bytes, or the place of what is none. -/
import Derived.Test.YtmfbjmffodnaeaaW8
set_option linter.unusedVariables false
namespace Go.Proofs.Ytmfbjmffodnaeaa.Wk
open Go.ChangeShapes Go.WideShapes Go.ChangeAt Go.RowKit M

abbrev Fs := List (ByteArray × ByteArray)
def chsF : Nat → ByteArray → Nat → Fs → Fs × Int × Int
  | 0, _, _, acc => (acc, 0, 0)
  | f + 1, b, at', acc => if at' < b.size then (if nE b at' = 0 then chsF f b (nK b at').toNat (acc ++ [(nT b at', nC b at')]) else ([], nE b at', at')) else (acc, 0, 0)
def chs (b : ByteArray) : Fs × Int × Int := chsF (b.size + 1) b 0 []
/-- The cells of a list of files. -/
def fcells (l : Fs) : List Value := l.flatMap fun p => [.string p.1, .string p.2]
theorem fcells_snoc (l : Fs) (p : ByteArray × ByteArray) : fcells (l ++ [p]) = fcells l ++ [.string p.1, .string p.2] := by simp [fcells]
theorem fcells_len (l : Fs) : (fcells l).length = l.length * 2 := by
  induction l with
  | nil => rfl
  | cons p l ih => unfold fcells at *; rw [List.flatMap_cons, List.length_append, ih]; simp; omega
theorem next_place (b : ByteArray) (n : Nat) (h : nE b n = 0) : nK b n = ((n + 12 + (nC b n).size : Nat) : Int) ∧ n + 12 + (nC b n).size ≤ b.size ∧ (nT b n).size = 4 := by
  obtain ⟨h1, h2⟩ := nE_ok b n h
  have h0 : n + 8 ≤ b.size := by unfold lackE at h1; split at h1 <;> (try split at h1) <;> omega
  have hz := chE_size _ h2
  have hC : nC b n = cC (nR b n) := by unfold nC chC; rw [h1, if_pos rfl, h2, if_pos rfl]
  have hT : nT b n = (nR b n).extract 0 4 := by unfold nT chT; rw [h1, if_pos rfl, h2, if_pos rfl]
  have hs := cC_size _ hz.2.2.1
  have hn := nR_size b n h0
  refine ⟨?_, ?_, ?_⟩
  · unfold nK; rw [h, if_pos rfl]; omega
  · rw [hC, hs]; omega
  · rw [hT]; exact tagB_size _ hz.1

theorem info58 : (Try.prog.info? 58).map (fun i => (i.zero, i.size, i.bytes)) = some (some (.agg #[.string ByteArray.empty, .string ByteArray.empty]), 2, 32) := by kernel_rfl

theorem own_below {w w1 : World} {base size n : Nat} {e : TypeId} {v : Value} {xs : List Value} (h : w.ownsRow base e size v n xs) (hb : Below w.heap.size w w1) : w1.ownsRow base e size v n xs := by
  refine ⟨h.1, ?_⟩
  rcases h.2 with h0 | ⟨g, cap, cur, hv, hg, hh, rest⟩
  · exact .inl h0
  · exact .inr ⟨g, cap, cur, hv, hg, (hb.block g (Array.getElem?_eq_some_iff.1 hh).1).trans hh, rest⟩

/-- What Chunks leaves: a list of the call's own that holds these files. -/
def ChsPost (b : ByteArray) (w : World) (e : Ending) (w' : World) : Prop :=
  ∃ v : Value, e = .returned (.tuple #[v, .int .i64 (chs b).2.1, .int .i64 (chs b).2.2]) ∧ w'.ownsRow w.heap.size 58 2 v (chs b).1.length (fcells (chs b).1) ∧ Below w.heap.size w w'

set_option maxHeartbeats 1000000 in
set_option maxRecDepth 100000 in
theorem chunks_any (b : ByteArray) (w : World) (hb : b.size ≤ 1073741824) :
    Calls Try.prog 21 #[.string b] w (ChsPost b w) := by
  obtain ⟨i0, hi, hz0, hz1, hz2⟩ := info_parts info58
  go_enter Try.func21, Try.ntmps21
  go_wp2
  go_loopw [5, 6] (fun v i wr => ∃ (n : Nat) (acc : Fs) (f : Nat), n ≤ b.size ∧ i = .int .i64 n ∧ acc.length * 12 ≤ n ∧ wr.ownsRow w.heap.size 58 2 v acc.length (fcells acc) ∧ Below w.heap.size w wr ∧ Hid (∀ _ : Unit, b.size < f + n ∧ chsF f b n acc = chs b))
    (fun _ i _ => b.size - (intOf i).toNat)
  case atStart => exact ⟨0, [], b.size + 1, Nat.zero_le _, rfl, by simp, World.ownsRow_nil _ _ _ _, Below.refl _ _, Lib.hid (fun _ => ⟨by omega, rfl⟩)⟩
  case round =>
    obtain ⟨n, acc, f, hn, rfl, hal, hown, hnx, HF⟩ := hrel
    have hsize := hnx.size
    by_cases hlt : n < b.size
    · have HN : Hid (∀ w : World, Calls Try.prog 19 #[.string b, .int .i64 n] w fun e w' => e = .returned (.tuple #[.string (nT b n), .string (nC b n), .int .i64 (nK b n), .int .i64 (nE b n)]) ∧ Below w.heap.size w w') :=
        Lib.hid (fun w => next_any b n w hb (by omega) (by omega))
      by_cases hE : nE b n = 0
      · obtain ⟨hk, hk2, hk3⟩ := next_place b n hE
        have HS : Hid (∀ _ : Unit, ∃ f', f = f' + 1 ∧ b.size < f' + (n + 12 + (nC b n).size) ∧ chsF f' b (n + 12 + (nC b n).size) (acc ++ [(nT b n, nC b n)]) = chs b) := Lib.hid (fun _ => by
          obtain ⟨h1, h2⟩ := HF.out ()
          obtain ⟨f', rfl⟩ : ∃ f', f = f' + 1 := ⟨f - 1, by omega⟩
          refine ⟨f', rfl, by omega, ?_⟩
          rw [← h2]
          simp only [chsF]
          rw [if_pos hlt, if_pos hE, hk]; rfl)
        rw [hE, hk] at HN
        clear hE hk
        generalize nT b n = T at *
        generalize nC b n = C at *
        generalize hm : n + 12 + C.size = m at *
        go_wp2_with (go_at_call 19; fail)
        refine (HN.out _).mono ?_
        rintro e w1 ⟨rfl, b1⟩
        have hown1 := own_below hown b1
        go_wp2_with (first
          | (at_builtin; refine wpList_append_own _ rfl _ _ 39 rfl w.heap.size 58 i0 (.agg #[.string ByteArray.empty, .string ByteArray.empty]) 2 32 Try.underlying39 hi hz0 hz1 hz2 rfl (by decide) _ _ _ rfl (hown1.alloc _) ⟨w1.heap.size, 0, none⟩ 1 1 [.string T, .string C] rfl rfl ?c1 ?c2 ?c3 ?c4 ?c5 ?_))
        case c1 =>
          intro j u hj
          match j, hj with
          | 0, hj => simp at hj; subst hj; simp [Addr.add]
          | 1, hj => simp at hj; subst hj; simp [Addr.add]
        case c2 => intro u hu; simp at hu; rcases hu with rfl | rfl <;> rfl
        case c3 => unfold maxLen; omega
        case c4 => omega
        case c5 => have := b1.size; simp; omega
        intro v' w2 hown' hgrow _
        have hnx1 := hnx.trans (b1.mono hsize)
        have hnx' := (hnx1.alloc hnx1.size _).grown hgrow (by have := hnx1.size; simp; omega) (fun q hq => (hown.lt q hq).1)
        rw [show acc.length + 1 = (acc ++ [(T, C)]).length by simp, ← fcells_snoc acc (T, C)] at hown'
        go_wp2
        obtain ⟨f', hf1, hf2, hf3⟩ := HS.out ()
        go_roundw
        case rel => exact ⟨m, acc ++ [(T, C)], f', by omega, rfl, by simp; omega, hown', hnx', Lib.hid (fun _ => ⟨hf2, hf3⟩)⟩
        case measure => simp [intOf]; omega
      · have HS : Hid (∀ _ : Unit, chs b = ([], nE b n, (n : Int))) := Lib.hid (fun _ => by
          obtain ⟨h1, h2⟩ := HF.out ()
          obtain ⟨f', rfl⟩ : ∃ f', f = f' + 1 := ⟨f - 1, by omega⟩
          rw [← h2]
          simp only [chsF]
          rw [if_pos hlt, if_neg hE])
        generalize nT b n = T at *
        generalize nC b n = C at *
        generalize nK b n = K at *
        generalize nE b n = E at *
        go_wp2_with (go_at_call 19; fail)
        refine (HN.out _).mono ?_
        rintro e w1 ⟨rfl, b1⟩
        go_wp2
        go_ret3
        refine ⟨.slice none 0 0, ?_, ?_, hnx.trans (b1.mono hsize)⟩
        · rw [HS.out ()]; rfl
        · rw [HS.out ()]; exact World.ownsRow_nil _ _ _ _
    · have HS : Hid (∀ _ : Unit, chs b = (acc, 0, 0)) := Lib.hid (fun _ => by
        obtain ⟨h1, h2⟩ := HF.out ()
        obtain ⟨f', rfl⟩ : ∃ f', f = f' + 1 := ⟨f - 1, by omega⟩
        rw [← h2]
        simp only [chsF]
        rw [if_neg hlt])
      go_wp2
      go_ret3
      refine ⟨u5, ?_, ?_, hnx⟩
      · rw [HS.out ()]; rfl
      · rw [HS.out ()]; exact hown

set_option maxHeartbeats 1000000 in
set_option maxRecDepth 100000 in
theorem rchunks_any (b : ByteArray) (w : World) (hb : b.size ≤ 1073741824) :
    Calls Try.prog 22 #[.string b] w (ChsPost b w) := by
  obtain ⟨i0, hi, hz0, hz1, hz2⟩ := info_parts info58
  go_enter Try.func22, Try.ntmps22
  go_wp2
  go_loopw [5, 6] (fun v i wr => ∃ (n : Nat) (acc : Fs) (f : Nat), n ≤ b.size ∧ i = .int .i64 n ∧ acc.length * 12 ≤ n ∧ wr.ownsRow w.heap.size 58 2 v acc.length (fcells acc) ∧ Below w.heap.size w wr ∧ Hid (∀ _ : Unit, b.size < f + n ∧ chsF f b n acc = chs b))
    (fun _ i _ => b.size - (intOf i).toNat)
  case atStart => exact ⟨0, [], b.size + 1, Nat.zero_le _, rfl, by simp, World.ownsRow_nil _ _ _ _, Below.refl _ _, Lib.hid (fun _ => ⟨by omega, rfl⟩)⟩
  case round =>
    obtain ⟨n, acc, f, hn, rfl, hal, hown, hnx, HF⟩ := hrel
    have hsize := hnx.size
    by_cases hlt : n < b.size
    · have HN : Hid (∀ w : World, Calls Try.prog 20 #[.string b, .int .i64 n] w fun e w' => e = .returned (.tuple #[.string (nT b n), .string (nC b n), .int .i64 (nK b n), .int .i64 (nE b n)]) ∧ w = w') :=
        Lib.hid (fun w => rnext_any b n w hb (by omega) (by omega))
      by_cases hE : nE b n = 0
      · obtain ⟨hk, hk2, hk3⟩ := next_place b n hE
        have HS : Hid (∀ _ : Unit, ∃ f', f = f' + 1 ∧ b.size < f' + (n + 12 + (nC b n).size) ∧ chsF f' b (n + 12 + (nC b n).size) (acc ++ [(nT b n, nC b n)]) = chs b) := Lib.hid (fun _ => by
          obtain ⟨h1, h2⟩ := HF.out ()
          obtain ⟨f', rfl⟩ : ∃ f', f = f' + 1 := ⟨f - 1, by omega⟩
          refine ⟨f', rfl, by omega, ?_⟩
          rw [← h2]
          simp only [chsF]
          rw [if_pos hlt, if_pos hE, hk]; rfl)
        rw [hE, hk] at HN
        clear hE hk
        generalize nT b n = T at *
        generalize nC b n = C at *
        generalize hm : n + 12 + C.size = m at *
        go_wp2_with (go_at_call 20; fail)
        refine (HN.out _).mono ?_
        rintro e w1 ⟨rfl, rfl⟩
        have b1 : Below wr.heap.size wr wr := Below.refl _ _
        have hown1 := own_below hown b1
        go_wp2_with (first
          | (at_builtin; refine wpList_append_own _ rfl _ _ 39 rfl w.heap.size 58 i0 (.agg #[.string ByteArray.empty, .string ByteArray.empty]) 2 32 Try.underlying39 hi hz0 hz1 hz2 rfl (by decide) _ _ _ rfl (hown1.alloc _) ⟨wr.heap.size, 0, none⟩ 1 1 [.string T, .string C] rfl rfl ?c1 ?c2 ?c3 ?c4 ?c5 ?_))
        case c1 =>
          intro j u hj
          match j, hj with
          | 0, hj => simp at hj; subst hj; simp [Addr.add]
          | 1, hj => simp at hj; subst hj; simp [Addr.add]
        case c2 => intro u hu; simp at hu; rcases hu with rfl | rfl <;> rfl
        case c3 => unfold maxLen; omega
        case c4 => omega
        case c5 => have := b1.size; simp; omega
        intro v' w2 hown' hgrow _
        have hnx1 := hnx.trans (b1.mono hsize)
        have hnx' := (hnx1.alloc hnx1.size _).grown hgrow (by have := hnx1.size; simp; omega) (fun q hq => (hown.lt q hq).1)
        rw [show acc.length + 1 = (acc ++ [(T, C)]).length by simp, ← fcells_snoc acc (T, C)] at hown'
        go_wp2
        obtain ⟨f', hf1, hf2, hf3⟩ := HS.out ()
        go_roundw
        case rel => exact ⟨m, acc ++ [(T, C)], f', by omega, rfl, by simp; omega, hown', hnx', Lib.hid (fun _ => ⟨hf2, hf3⟩)⟩
        case measure => simp [intOf]; omega
      · have HS : Hid (∀ _ : Unit, chs b = ([], nE b n, (n : Int))) := Lib.hid (fun _ => by
          obtain ⟨h1, h2⟩ := HF.out ()
          obtain ⟨f', rfl⟩ : ∃ f', f = f' + 1 := ⟨f - 1, by omega⟩
          rw [← h2]
          simp only [chsF]
          rw [if_pos hlt, if_neg hE])
        generalize nT b n = T at *
        generalize nC b n = C at *
        generalize nK b n = K at *
        generalize nE b n = E at *
        go_wp2_with (go_at_call 20; fail)
        refine (HN.out _).mono ?_
        rintro e w1 ⟨rfl, rfl⟩
        have b1 : Below wr.heap.size wr wr := Below.refl _ _
        go_wp2
        go_ret3
        refine ⟨.slice none 0 0, ?_, ?_, hnx.trans (b1.mono hsize)⟩
        · rw [HS.out ()]; rfl
        · rw [HS.out ()]; exact World.ownsRow_nil _ _ _ _
    · have HS : Hid (∀ _ : Unit, chs b = (acc, 0, 0)) := Lib.hid (fun _ => by
        obtain ⟨h1, h2⟩ := HF.out ()
        obtain ⟨f', rfl⟩ : ∃ f', f = f' + 1 := ⟨f - 1, by omega⟩
        rw [← h2]
        simp only [chsF]
        rw [if_neg hlt])
      go_wp2
      go_ret3
      refine ⟨u5, ?_, ?_, hnx⟩
      · rw [HS.out ()]; rfl
      · rw [HS.out ()]; exact hown
end Go.Proofs.Ytmfbjmffodnaeaa.Wk
