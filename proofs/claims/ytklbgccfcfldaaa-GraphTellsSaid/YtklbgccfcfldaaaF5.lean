/- Bytes, appended. -/
import Derived.Test.YtklbgccfcfldaaaF4
import Derived.StillTailTactics
set_option linter.unusedVariables false
namespace Go.Proofs.Ytklbgccfcfldaaa.Wk
open Go.ChangeShapes Go.WideShapes Go.ChangeAt Go.RowKit Go.Shelf M

theorem orB (x : Int) (e : Nat) (he : e ≤ 56) (h0 : 0 ≤ x) (h2 : x ≤ 18446744073709551615) :
    bits .or .u64 (x % ((2 ^ e : Nat) : Int)) (IntKind.u64.wrap (x / (2 : Int) ^ e % 256 * (2 : Int) ^ e)) = x % ((2 ^ (e + 8) : Nat) : Int) := by
  have hp : (2 : Int) ^ e = ((2 ^ e : Nat) : Int) := by rw [Int.natCast_pow]; rfl
  have hle : 2 ^ e ≤ 2 ^ 56 := Nat.pow_le_pow_right (by omega) he
  have hpos := Nat.two_pow_pos e
  obtain ⟨n, rfl⟩ : ∃ n : Nat, x = n := ⟨x.toNat, by omega⟩
  have hb : n / 2 ^ e % 256 * 2 ^ e ≤ 255 * 2 ^ e := Nat.mul_le_mul_right _ (by omega)
  have hm : n % 2 ^ e < 2 ^ e := Nat.mod_lt _ hpos
  have hw : IntKind.u64.wrap ((n : Int) / (2 : Int) ^ e % 256 * (2 : Int) ^ e) = ((n / 2 ^ e % 256 * 2 ^ e : Nat) : Int) := by
    rw [IntKind.wrap_u64, hp, ← Int.natCast_ediv]
    rw [show ((n / 2 ^ e : Nat) : Int) % 256 = ((n / 2 ^ e % 256 : Nat) : Int) from by omega, ← Int.natCast_mul]
    omega
  rw [hw, ← Int.natCast_emod]
  rw [or_join e _ _ (by omega) (by omega) (by omega) (by rw [← Int.natCast_emod, Nat.mul_mod_left]; rfl) (by omega) (by omega)]
  rw [← Int.natCast_emod, ← Int.natCast_add]
  congr 1
  rw [Nat.pow_add, Nat.mod_mul, Nat.mul_comm]
/-- The first i bytes of a word, the j-th of a row. -/
def accB (f : Nat → Int) (i j : Nat) : Int := f j % ((2 ^ (8 * min 8 (i - 8 * j)) : Nat) : Int)
theorem accB_0 (f : Nat → Int) (j : Nat) : accB f 0 j = 0 := by unfold accB; simp
theorem accB_succ (f : Nat → Int) (hf : ∀ j, 0 ≤ f j ∧ f j ≤ 18446744073709551615) (i j : Nat) :
    accB f (i + 1) j = if j = i / 8 then bits .or .u64 (accB f i (i / 8)) (IntKind.u64.wrap (f (i / 8) / (2 : Int) ^ (i % 8 * 8) % 256 * (2 : Int) ^ (i % 8 * 8))) else accB f i j := by
  by_cases h : j = i / 8
  · rw [if_pos h]
    subst h
    unfold accB
    rw [show 8 * min 8 (i - 8 * (i / 8)) = i % 8 * 8 from by omega, show 8 * min 8 (i + 1 - 8 * (i / 8)) = i % 8 * 8 + 8 from by omega, orB _ _ (by omega) (hf _).1 (hf _).2]
  · rw [if_neg h]
    unfold accB
    rw [show min 8 (i + 1 - 8 * j) = min 8 (i - 8 * j) from by omega]

theorem append_z (W : World) (v : Value) (l : List Int) (h : Wr W v l) (hl : 0 < l.length) (q : Addr) : (Builtin.append_ #[42, 42] 42 #[v, .slice (some q) 0 0]).run Try.prog W = .ok v W := by
  obtain ⟨i0, hi, hz0, hz1, hz2⟩ := info_parts infoU
  rcases h.2 with ⟨h0, _⟩ | ⟨gq, cap, cur, rfl, hc, ⟨fz, hg, hz⟩, hn, _, hs, _⟩
  · omega
  · have hsrc : Src Try.prog i0.size 42 (.slice (some q) 0 0) 0 [] W := Src.ofSlice _ Try.underlying42 q 0 0 [] (by simp) (by simp) (by simp)
    have hrun := run_append_room_src (P := Try.prog) (w := W) 42 42 42 32 i0 Try.underlying42 hi gq 0 l.length cap (.slice (some q) 0 0) 0 [] hsrc (by omega) (by simp) (by simp)
    simpa [World.setCells] using hrun
/-- Another row's words more. -/
theorem append_row (W : World) (v : Value) (l : List Int) (h : Wr W v l) (h0 : 0 < l.length) (q K : Nat) (f : Nat → Int) (hq : W.heap[q]? = some (.cells (Array.ofFn (n := K) fun j => .int .u64 (f j)) 32 (0, 0))) (hl : l.length + K ≤ 1099511627776) :
    ∃ v' w2, (Builtin.append_ #[42, 42] 42 #[v, .slice (some ⟨q, 0, none⟩) K K]).run Try.prog W = .ok v' w2 ∧ Wr w2 v' (l ++ (List.range K).map f) ∧ Gr W w2 v v' := by
  by_cases hK : K = 0
  · subst hK
    exact ⟨v, W, append_z W v l h h0 _, by simpa using h, Gr.refl _ _⟩
  · obtain ⟨i, hi, hz0, hz1, hz2⟩ := info_parts infoU
    have hlen : (ocells ((List.range K).map f)).length = K := by simp [ocells]
    have hsrc : Src Try.prog 1 42 (.slice (some ⟨q, 0, none⟩) K K) K (ocells ((List.range K).map f)) W := by
      refine Src.ofSlice (P := Try.prog) _ Try.underlying42 _ K K _ (by rw [hlen]; omega) (fun j u hu => ?_) (by intro u hu; simp [ocells] at hu; obtain ⟨x, -, rfl⟩ := hu; rfl)
      have hj : j < K := by have := (List.getElem?_eq_some_iff.1 hu).1; omega
      rw [add_0, cell_blk hq, Nat.zero_add, Array.getElem?_ofFn]
      simp [ocells, hj] at hu
      simp [hj, hu]
    obtain ⟨v', w2, hr, h2, hg, hb⟩ := Row.append (P := Try.prog) h 42 42 42 i _ 8 Try.underlying42 hi hz0 hz1 hz2 rfl _ K _ hsrc (by omega) (by unfold maxLen; omega) (by omega)
    refine ⟨v', w2, hr, ?_, ⟨hg, ?_⟩⟩
    · show Row w2 _ 1 v' (l ++ (List.range K).map f).length (ocells (l ++ (List.range K).map f))
      rw [List.length_append, show ocells (l ++ (List.range K).map f) = ocells l ++ ocells ((List.range K).map f) from by simp [ocells]]
      simpa using h2
    · rcases hb with e | e
      · exact .inl e
      · exact .inr fun k hk => by rw [hk] at e; simp at e; omega

set_option maxRecDepth 100000 in
set_option maxHeartbeats 4000000 in
theorem appendBytes_any (own : Own) (w : World) (p : Nat) (s : Hp) (g : Gh) (h : Rep own w p s g) (hw : Wf s) (v : Value) (l : List Int) (hv : Wr w v l) (hl0 : 0 < l.length) (hl : l.length ≤ 1099500000000)
    (o : Int) (h0 : 0 ≤ o) (h2 : o ≤ 18446744073709551615) (ho : isOb s o = true) :
    Calls Try.prog 64 #[v, .pointer (some ⟨p, 0, none⟩), .int .u64 o] w fun e w' => ∃ v', e = .returned v' ∧ Wr w' v' (l ++ (List.range ((nBytes s (atO o) + 7) / 8)).map (byteW s (atO o))) ∧ Gr w w' v v' := by
  have HB := bytesN_y own w p s g h hw o h0 h2 ho
  have hst := (isOb_at hw ho).2
  obtain ⟨f, hf⟩ : ∃ f : Nat → Int, f = fun j => s.mem (atO o + 2 + nOops s (atO o) + j) := ⟨_, rfl⟩
  have hfb : ∀ j, 0 ≤ f j ∧ f j ≤ 18446744073709551615 := fun j => by rw [hf]; exact hw.mem _
  obtain ⟨N, hN⟩ : ∃ N, nBytes s (atO o) = N := ⟨_, rfl⟩
  have hNb : N ≤ 33554432 := by
    have q1 := (hw.st _ hst).2.1
    have q2 := hw.n
    rw [← hN]; unfold nBytes; split <;> omega
  have hrow : (List.range ((nBytes s (atO o) + 7) / 8)).map (byteW s (atO o)) = (List.range ((N + 7) / 8)).map (accB f N) := by
    rw [hN]; congr 1; funext j; unfold byteW accB; rw [hf, hN]
  rw [hrow]
  have hY : ∀ X, Rep own X p s g → ∀ i : Nat, i < N → Calls Try.prog 16 #[.pointer (some ⟨p, 0, none⟩), .int .u64 o, .int .i64 (i : Int)] X fun e w' => e = .returned (.tuple #[.int .u8 (f (i / 8) / (2 : Int) ^ (i % 8 * 8) % 256), .int .i64 0]) ∧ Below X.heap.size X w' := fun X hX i hi => by
    rw [hf]
    exact byte_y own X p s g hX hw o h0 h2 ho i (by rw [hN]; exact hi)
  rw [hN] at HB
  obtain ⟨K, hK⟩ : ∃ K, (N + 7) / 8 = K := ⟨_, rfl⟩
  rw [hK]
  have HY := Lib.hid hY
  have HH := Lib.hid h
  have HV := Lib.hid hv
  have HFB := Lib.hid hfb
  obtain ⟨va, vc, hve⟩ := hv.form
  obtain ⟨ln, hln⟩ : ∃ ln, l.length = ln := ⟨_, rfl⟩
  have hmk := make_u64 K (by omega)
  have hd : ((K : Nat) : Int) = ((N : Int) + 8 - 1) / 8 := by omega
  rw [hd] at hmk
  have HLN := Lib.hid hln
  clear h hv hY hf hN hrow hw ho hst hfb hd
  have hi0 : (0 : Int) ≤ ((N : Int) + 8 - 1) / 8 := by omega
  subst hve
  go_enter Try.func64, Try.ntmps64
  go_wp2_with (go_at_call 81; refine HB.mono ?_; rintro e w1 ⟨rfl, hb1⟩; have HB1 := Lib.hid hb1; clear HB)
  have hs1 := HB1.out.size
  have hq0 : (w1.alloc (.cells (Array.ofFn (n := K) fun _ => .int .u64 0) 32)).heap[w1.heap.size]? = some (.cells (Array.ofFn (n := K) fun j => .int .u64 (accB f 0 j)) 32 (0, 0)) := by
    rw [show (fun j : Fin K => (Value.int .u64 (accB f 0 j))) = fun _ => .int .u64 0 from by funext j; rw [accB_0]]
    exact heap_alloc_new w1 _
  have hb0 : Below w.heap.size w (w1.alloc (.cells (Array.ofFn (n := K) fun _ => .int .u64 0) 32)) := HB1.out.alloc hs1 _
  clear hmk
  go_loopw [25] (fun iv wr => ∃ i : Nat, i ≤ N ∧ iv = .int .i64 i ∧ wr.heap[w1.heap.size]? = some (.cells (Array.ofFn (n := K) fun j => .int .u64 (accB f i j)) 32 (0, 0)) ∧ Below w.heap.size w wr) (fun iv _ => N - (intOf iv).toNat)
  case atStart => exact ⟨0, Nat.zero_le _, rfl, hq0, hb0⟩
  case round =>
    obtain ⟨i, hi, rfl, hq, hbw⟩ := hrel
    by_cases hlt : i < N
    · have hlt2 : (i : Int) < N := by omega
      have HYi := HY.out wr (HH.out.below hbw (Nat.le_refl _)) i hlt
      have hw2 : ∀ w2, Below wr.heap.size wr w2 → w2.heap[w1.heap.size]? = some (.cells (Array.ofFn (n := K) fun j => .int .u64 (accB f i j)) 32 (0, 0)) ∧ Below w.heap.size w w2 := fun w2 hb => ⟨(hb.block _ (blk_lt hq)).trans hq, hbw.trans (hb.mono hbw.size)⟩
      have HW2 := Lib.hid hw2
      clear hw2 hq hbw
      have j1 : (i : Int) / 8 < K := by omega
      have j2 : i / 8 < K := by omega
      have j3 : IntKind.i64.wrap ((i : Int) / 8) = (i : Int) / 8 := by rw [IntKind.wrap_i64]; omega
      have j4 : IntKind.i64.wrap ((i : Int) % 8) = (i : Int) % 8 := by rw [IntKind.wrap_i64]; omega
      have j5 : IntKind.i64.wrap ((i : Int) % 8 * 8) = (i : Int) % 8 * 8 := by rw [IntKind.wrap_i64]; omega
      have j6 : ((i : Int) / 8).toNat = i / 8 := by omega
      have j7 : ((i : Int) % 8 * 8).toNat = i % 8 * 8 := by omega
      have j8 : (0 : Int) ≤ (i : Int) / 8 := by omega
      have j9 : IntKind.u64.wrap (f (i / 8) / (2 : Int) ^ (i % 8 * 8) % 256) = f (i / 8) / (2 : Int) ^ (i % 8 * 8) % 256 := by rw [IntKind.wrap_u64]; omega
      have j11 : (i : Int).tmod 8 = (i : Int) % 8 := Int.tmod_eq_emod_of_nonneg (by omega)
      have j10 : (0 : Int) ≤ (i : Int) % 8 * 8 := by omega
      go_wp2_with (go_at_call 16; refine HYi.mono ?_; rintro e w2 ⟨rfl, hb2⟩; obtain ⟨hq2, hbw2⟩ := HW2.out w2 hb2; have cc : w2.cell? ⟨w1.heap.size, i / 8, none⟩ = some (.int .u64 (accB f i (i / 8))) := (by rw [cell_blk hq2, Array.getElem?_ofFn]; simp [j2]); have fz := frozen_blk hq2 (i / 8); have hql := blk_lt hq2; have HQ2 := Lib.hid (And.intro hq2 hbw2); clear hq2 hbw2)
      go_still_tail 13, (by kernel_rfl)
      go_wp2
      go_roundw
      case rel =>
        refine ⟨i + 1, by omega, by simp, ?_, ?_⟩
        · have h1 := blk_set HQ2.out.1 (i / 8) (.int .u64 (bits .or .u64 (accB f i (i / 8)) (IntKind.u64.wrap (f (i / 8) / (2 : Int) ^ (i % 8 * 8) % 256 * (2 : Int) ^ (i % 8 * 8)))))
          rw [ofFn_set (n := K) (fun j => .int .u64 (accB f i j)) (fun j => .int .u64 (accB f (i + 1) j)) (i / 8) _ (fun j _ => by rw [accB_succ f HFB.out]; split <;> rfl)] at h1
          exact h1
        · exact (HQ2.out.2.drew).setCell (p := ⟨w1.heap.size, i / 8, none⟩) hs1 _
      case measure => simp only [intOf]; omega
    · have hie : i = N := by omega
      subst hie
      obtain ⟨v', w3, hrun, hx⟩ : ∃ v' w3, (Builtin.append_ #[42, 42] 42 #[.slice va ln vc, .slice (some ⟨w1.heap.size, 0, none⟩) K K]).run Try.prog wr = .ok v' w3 ∧ (Wr w3 v' (l ++ (List.range K).map (accB f i)) ∧ Gr w w3 (.slice va ln vc) v') := by
        have hvr : Wr wr (.slice va ln vc) l := by have := HV.out.below hbw; rw [hln] at this; exact this
        obtain ⟨v', w3, a1, a2, a3⟩ := append_row wr _ l hvr hl0 w1.heap.size K (accB f i) hq (by omega)
        exact ⟨v', w3, a1, a2, (Gr.of_below _ hbw).trans a3⟩
      have HX := Lib.hid hx
      clear hx
      go_wp2_with (at_builtin; refine Lib.wpList_append_run _ rfl _ _ _ _ rfl _ _ rfl rfl _ _ hrun ?_)
      go_ret
      rw [HLN.out]
      exact ⟨v', rfl, HX.out⟩
end Go.Proofs.Ytklbgccfcfldaaa.Wk
