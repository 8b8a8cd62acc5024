/- The law WireReads returns true, for every argument. No condition beyond what the theorem states. -/
import Derived.Test.YtmfbjmffodnaeaaW15
import Derived.Test.YtmfbjmffodnaeaaL3
set_option linter.unusedVariables false
namespace Go.Proofs.Ytmfbjmffodnaeaa.Wk
open Go.ChangeShapes Go.WideShapes Go.ChangeAt Go.RowKit M

theorem chsF_len (f : Nat) (b : ByteArray) : ∀ (n : Nat) (acc : Fs), n ≤ b.size → acc.length * 12 ≤ n → (chsF f b n acc).1.length * 12 ≤ b.size := by
  induction f with
  | zero => intro n acc h1 h2; simp only [chsF]; omega
  | succ f ih =>
    intro n acc h1 h2
    simp only [chsF]
    by_cases hlt : n < b.size
    · rw [if_pos hlt]
      by_cases hE : nE b n = 0
      · rw [if_pos hE]
        obtain ⟨k1, k2, k3⟩ := next_place b n hE
        rw [k1, Int.toNat_natCast]
        exact ih _ _ k2 (by simp; omega)
      · rw [if_neg hE]; simp
    · rw [if_neg hlt]; simp; omega
theorem chs_len (b : ByteArray) : (chs b).1.length * 12 ≤ b.size := chsF_len _ b 0 [] (Nat.zero_le _) (by simp)

theorem own_lower {w : World} {base base' size n : Nat} {e : TypeId} {v : Value} {xs : List Value} (h : w.ownsRow base e size v n xs) (hb : base' ≤ base) : w.ownsRow base' e size v n xs := by
  refine ⟨h.1, ?_⟩
  rcases h.2 with h0 | ⟨g, cap, cur, hv, hg, rest⟩
  · exact .inl h0
  · exact .inr ⟨g, cap, cur, hv, Nat.le_trans hb hg, rest⟩
/-- A list of files stays where all blocks of files do. -/
theorem own_58 {w w' : World} {base n : Nat} {v : Value} {xs : List Value} (h : w.ownsRow base 58 2 v n xs) (hk : ∀ k, k < w.heap.size → (∀ cs fr, w.heap[k]? = some (.cells cs 58 fr) → w'.heap[k]? = w.heap[k]?)) : w'.ownsRow base 58 2 v n xs := by
  refine ⟨h.1, ?_⟩
  rcases h.2 with h0 | ⟨g, cap, cur, hv, hg, hh, rest⟩
  · exact .inl h0
  · exact .inr ⟨g, cap, cur, hv, hg, (hk g (Array.getElem?_eq_some_iff.1 hh).1 _ _ hh).trans hh, rest⟩
/-- Two lists, one behind the other. -/
theorem two_rows {w : World} {base n : Nat} {v1 v2 : Value} {xs : List Value} (h1 : w.ownsRow base 58 2 v1 n xs) (h2 : w.ownsRow base 58 2 v2 n xs) : Rws w base [(v1, n), (v2, n)] (fun _ => xs) := by
  intro i h
  match i, h with
  | 0, _ => exact h1
  | 1, _ => exact h2
theorem two_dis {n : Nat} {v1 v2 : Value} (h : ∀ g, v1.ownBlock = some g → v2.ownBlock ≠ some g) : Dis [(v1, n), (v2, n)] := by
  intro i j hi hj hne g hg
  match i, hi, j, hj with
  | 0, _, 0, _ => exact absurd rfl hne
  | 0, _, 1, _ => exact h g hg
  | 1, _, 0, _ => exact fun e => h g e hg
  | 1, _, 1, _ => exact absurd rfl hne

set_option maxHeartbeats 2000000 in
set_option maxRecDepth 100000 in
theorem WireReads_walk (b : ByteArray) (a : Int) (w : World) (w0 : b.size ≤ maxLen) (w1 : (Lit.int .i64 a).wf = true) :
    Calls Try.prog 4 #[.string b, .int .i64 a] w fun e w' => e = .returned (.bool true) ∧ Below w.heap.size w w' := by
  obtain ⟨a1, a2⟩ := bounds_i64 w1
  clear w1
  unfold maxLen at w0
  by_cases hbig : b.size ≤ 33554431
  · clear w0
    have cT : Hid (∀ w : World, Calls Try.prog 17 #[.string b, .int .i64 a] w fun e w' => e = .returned (.tuple #[.int .u64 (takeN b a), .int .i64 (takeK b a), .int .i64 (lackE b.size a 8)]) ∧ w = w') :=
      Lib.hid (fun w => take_any b a w (by omega) a1 a2)
    have cU : Hid (∀ w : World, Calls Try.prog 18 #[.string b, .int .i64 a] w fun e w' => e = .returned (.tuple #[.int .u64 (takeN b a), .int .i64 (takeK b a), .int .i64 (lackE b.size a 8)]) ∧ w = w') :=
      Lib.hid (fun w => rtake_any b a w (by omega) a1 a2)
    have cN : Hid (∀ w : World, Calls Try.prog 19 #[.string b, .int .i64 a] w fun e w' => e = .returned (.tuple #[.string (nT b a), .string (nC b a), .int .i64 (nK b a), .int .i64 (nE b a)]) ∧ Below w.heap.size w w') :=
      Lib.hid (fun w => next_any b a w (by omega) a1 a2)
    have cM : Hid (∀ w : World, Calls Try.prog 20 #[.string b, .int .i64 a] w fun e w' => e = .returned (.tuple #[.string (nT b a), .string (nC b a), .int .i64 (nK b a), .int .i64 (nE b a)]) ∧ w = w') :=
      Lib.hid (fun w => rnext_any b a w (by omega) a1 a2)
    have own : ∀ (w w' : World) (v : Value), w'.ownsRow w.heap.size 58 2 v (chs b).1.length (fcells (chs b).1) → ∃ (A : Option Addr) (cap : Nat), v = .slice A (chs b).1.length cap ∧ Hid (w'.ownsRow w.heap.size 58 2 (.slice A (chs b).1.length cap) (chs b).1.length (fcells (chs b).1)) ∧ Hid (FRd w' w'.heap.size A (chs b).1) := fun w w' v h2 => by
      obtain ⟨A, cap, rfl, hl, h4⟩ := own_files h2
      exact ⟨A, cap, rfl, Lib.hid h2, Lib.hid (fun h => by obtain ⟨g, g1, _, g2, g3⟩ := h4 h; exact ⟨g, g1, g2, g3⟩)⟩
    have cL : Hid (∀ w : World, Calls Try.prog 21 #[.string b] w fun e w' => ∃ (A : Option Addr) (cap : Nat), e = .returned (.tuple #[.slice A (chs b).1.length cap, .int .i64 (chs b).2.1, .int .i64 (chs b).2.2]) ∧ Below w.heap.size w w' ∧ Hid (w'.ownsRow w.heap.size 58 2 (.slice A (chs b).1.length cap) (chs b).1.length (fcells (chs b).1)) ∧ Hid (FRd w' w'.heap.size A (chs b).1)) :=
      Lib.hid (fun w => (chunks_any b w (by omega)).mono fun e w' ⟨v, h1, h2, h3⟩ => by
        obtain ⟨A, cap, rfl, h4, h5⟩ := own w w' v h2
        exact ⟨A, cap, h1, h3, h4, h5⟩)
    have cW : Hid (∀ w : World, Calls Try.prog 22 #[.string b] w fun e w' => ∃ (A : Option Addr) (cap : Nat), e = .returned (.tuple #[.slice A (chs b).1.length cap, .int .i64 (chs b).2.1, .int .i64 (chs b).2.2]) ∧ Below w.heap.size w w' ∧ Hid (w'.ownsRow w.heap.size 58 2 (.slice A (chs b).1.length cap) (chs b).1.length (fcells (chs b).1)) ∧ Hid (FRd w' w'.heap.size A (chs b).1)) :=
      Lib.hid (fun w => (rchunks_any b w (by omega)).mono fun e w' ⟨v, h1, h2, h3⟩ => by
        obtain ⟨A, cap, rfl, h4, h5⟩ := own w w' v h2
        exact ⟨A, cap, h1, h3, h4, h5⟩)
    clear own
    have hL : (chs b).1.length ≤ 33554431 := by have := chs_len b; omega
    generalize (chs b).1 = L at *
    generalize (chs b).2.1 = E at *
    generalize (chs b).2.2 = K0 at *
    generalize takeN b a = tn at *
    generalize takeK b a = tk at *
    generalize lackE b.size a 8 = te at *
    generalize nT b a = nt at *
    generalize nC b a = nc at *
    generalize nK b a = nk at *
    generalize nE b a = ne at *
    go_enter Try.func4, Try.ntmps4
    go_wp2_with (first
      | (go_at_call 8; refine (works_any _).mono ?_; rintro e w1 ⟨rfl, b1⟩)
      | (go_at_call 17; refine (cT.out _).mono ?_; rintro e w' ⟨rfl, rfl⟩)
      | (go_at_call 18; refine (cU.out _).mono ?_; rintro e w' ⟨rfl, rfl⟩)
      | (go_at_call 19; refine (cN.out _).mono ?_; rintro e w2 ⟨rfl, b2⟩)
      | (go_at_call 20; refine (cM.out _).mono ?_; rintro e w' ⟨rfl, rfl⟩))
    all_goals first | (exfalso; omega) | skip
    refine (cL.out _).mono ?_
    rintro e w3 ⟨A1, k1, rfl, b3, o1, f1⟩
    go_wp2_with fail
    refine (cL.out _).mono ?_
    rintro e w4 ⟨A2, k2, rfl, b4, o2, f2⟩
    go_wp2_with fail
    refine (cW.out _).mono ?_
    rintro e w5 ⟨A3, k3, rfl, b5, o3, f3⟩
    clear cT cU cN cM cL cW
    go_wp2_with fail
    have z1 := b1.size; have z2 := b2.size; have z3 := b3.size; have z4 := b4.size; have z5 := b5.size
    have B5 : Below w.heap.size w w5 := b1.trans ((b2.mono z1).trans ((b3.mono (by omega)).trans ((b4.mono (by omega)).trans (b5.mono (by omega)))))
    have d5 : w3.heap.size ≤ w5.heap.size ∧ w2.heap.size ≤ w3.heap.size ∧ w.heap.size ≤ w2.heap.size := by omega
    have p1 : Hid (w5.ownsRow w2.heap.size 58 2 (.slice A1 L.length k1) L.length (fcells L)) := Lib.hid (own_kept_below (own_kept_below o1.out b4) b5)
    have p2 : Hid (w5.ownsRow w2.heap.size 58 2 (.slice A2 L.length k2) L.length (fcells L)) := Lib.hid (own_lower (own_kept_below o2.out b5) d5.2.1)
    have pd : Hid (∀ g, (Value.slice A1 L.length k1).ownBlock = some g → (Value.slice A2 L.length k2).ownBlock ≠ some g) := Lib.hid (fun g h1 h2 => by
      have e1 := (o1.out.lt g h1).2
      have e2 := (o2.out.lt g h2).1
      omega)
    have g1 : Hid (FRd w5 w5.heap.size A1 L) := Lib.hid (fun h0 => by
      obtain ⟨g, e, hg, hc⟩ := ((f1.out.below b4).below (b5.mono z4)) h0
      exact ⟨g, e, by omega, hc⟩)
    have g2 : Hid (FRd w5 w5.heap.size A2 L) := Lib.hid (fun h0 => by
      obtain ⟨g, e, hg, hc⟩ := (f2.out.below b5) h0
      exact ⟨g, e, by omega, hc⟩)
    clear o1 o2 o3 f1 f2 b1 b2 b3 b4 b5 z1 z2 z3 z4 z5
    obtain ⟨base, hbase⟩ : ∃ base, base = w2.heap.size := ⟨_, rfl⟩
    rw [← hbase] at p1 p2 d5
    have d6 : base ≤ w5.heap.size ∧ w.heap.size ≤ base := by omega
    clear d5 hbase
    refine (sameF_any A1 A3 k1 k3 w5.heap.size L w5 hL g1.out f3.out).mono ?_
    rintro e w6 ⟨rfl, q, rfl⟩
    go_wp2_with fail
    refine (sameF_any A2 A3 k2 k3 w5.heap.size L (w5.drewN q) hL (g2.out.below (below_dn _ _ _)) (f3.out.below (below_dn _ _ _))).mono ?_
    rintro e w7 ⟨rfl, q2, hw7⟩
    have B7 : Below w.heap.size w w7 := by rw [hw7]; exact (B5.trans ⟨rfl, rfl, rfl, Nat.le_refl _, fun _ _ => rfl⟩)
    have q1 : Hid (w7.ownsRow base 58 2 (.slice A1 L.length k1) L.length (fcells L)) := Lib.hid (by rw [hw7]; exact p1.out)
    have q2 : Hid (w7.ownsRow base 58 2 (.slice A2 L.length k2) L.length (fcells L)) := Lib.hid (by rw [hw7]; exact p2.out)
    have d7 : base ≤ w7.heap.size := by rw [hw7]; exact d6.1
    clear hw7 p1 p2 g1 g2 f3 B5
    go_wp2_with fail
    obtain ⟨bk, hbk⟩ : ∃ bk, bk = w7.heap.size := ⟨_, rfl⟩
    have K0' : BookSt (w7.alloc (.cells #[.slice none 0 0, .slice none 0 0, .slice none 0 0, .slice none 0 0, .slice none 0 0, .slice none 0 0, .slice none 0 0, .slice none 0 0] 53 (0, 0))) base bk [] :=
      ⟨.slice none 0 0, by rw [hbk]; exact Array.getElem?_push_size, World.ownsRow_nil _ _ _ _, by omega⟩
    have KK := Lib.hid K0'
    clear K0'
    have r1 : Hid ((w7.alloc (.cells #[.slice none 0 0, .slice none 0 0, .slice none 0 0, .slice none 0 0, .slice none 0 0, .slice none 0 0, .slice none 0 0, .slice none 0 0] 53 (0, 0))).ownsRow base 58 2 (.slice A1 L.length k1) L.length (fcells L)) := Lib.hid (q1.out.alloc _)
    have r2 : Hid ((w7.alloc (.cells #[.slice none 0 0, .slice none 0 0, .slice none 0 0, .slice none 0 0, .slice none 0 0, .slice none 0 0, .slice none 0 0, .slice none 0 0] 53 (0, 0))).ownsRow base 58 2 (.slice A2 L.length k2) L.length (fcells L)) := Lib.hid (q2.out.alloc _)
    have B8 : Below w.heap.size w (w7.alloc (.cells #[.slice none 0 0, .slice none 0 0, .slice none 0 0, .slice none 0 0, .slice none 0 0, .slice none 0 0, .slice none 0 0, .slice none 0 0] 53 (0, 0))) := B7.alloc B7.size _
    have d8 : base ≤ (w7.alloc (.cells #[.slice none 0 0, .slice none 0 0, .slice none 0 0, .slice none 0 0, .slice none 0 0, .slice none 0 0, .slice none 0 0, .slice none 0 0] 53 (0, 0))).heap.size := by simp; omega
    rw [← hbk]
    generalize w7.alloc (.cells #[.slice none 0 0, .slice none 0 0, .slice none 0 0, .slice none 0 0, .slice none 0 0, .slice none 0 0, .slice none 0 0, .slice none 0 0] 53 (0, 0)) = w8 at *
    clear q1 q2 B7 d7 hbk
    refine (files_any bk base [] A1 L.length k1 w8 (by decide) KK.out d8).mono ?_
    rintro e w9 ⟨rfl, BK9, l9, s9⟩
    have t1 : Hid (w9.ownsRow base 58 2 (.slice A1 L.length k1) L.length (fcells L)) := Lib.hid (own_58 r1.out s9)
    have t2 : Hid (w9.ownsRow base 58 2 (.slice A2 L.length k2) L.length (fcells L)) := Lib.hid (own_58 r2.out s9)
    have H9 := Lib.hid BK9
    have B9 : Below w.heap.size w w9 := B8.trans (l9.mono d6.2)
    have d9 := Nat.le_trans d8 l9.size
    clear BK9 r1 r2 s9 l9 B8 d8 KK
    go_wp2_with fail
    refine (files_any bk base ([] ++ [.slice A1 L.length k1]) A2 L.length k2 w9 (by simp) H9.out d9).mono ?_
    rintro e w10 ⟨rfl, BK10, l10, s10⟩
    have RR : Hid (Rws w10 base [(.slice A1 L.length k1, L.length), (.slice A2 L.length k2, L.length)] (fun _ => fcells L)) := Lib.hid (two_rows (own_58 t1.out s10) (own_58 t2.out s10))
    have H10 : Hid (BookSt w10 base bk (([(.slice A1 L.length k1, L.length), (.slice A2 L.length k2, L.length)] : Rs).map (·.1))) := Lib.hid BK10
    have B10 : Below w.heap.size w w10 := B9.trans (l10.mono d6.2)
    have d10 := Nat.le_trans d9 l10.size
    clear BK10 t1 t2 s10 l10 B9 d9 H9
    go_wp2_with fail
    refine (own_any bk base [(.slice A1 L.length k1, L.length), (.slice A2 L.length k2, L.length)] (fun _ => fcells L) w10 H10.out d10 (by simp) (fun i h => by match i, h with | 0, _ => exact hL | 1, _ => exact hL) RR.out (two_dis pd.out)).mono ?_
    rintro e w11 ⟨rfl, l11⟩
    have B11 : Below w.heap.size w w11 := B10.trans (l11.mono d6.2)
    clear RR H10 B10 d10 pd l11
    go_wp2
    go_ret
    exact ⟨rfl, B11⟩
  · go_enter Try.func4, Try.ntmps4
    go_wp2_with (go_at_call 8; refine (works_any _).mono ?_; rintro e w1 ⟨rfl, b1⟩)
    all_goals first
      | (exfalso; omega)
      | (go_ret; exact ⟨rfl, b1⟩)
end Go.Proofs.Ytmfbjmffodnaeaa.Wk
