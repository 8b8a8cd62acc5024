/- survivors. -/
import Derived.Test.YtpkhghjmelgpeaaGreatW25
import Derived.Laws.BitsAllLaws
import Derived.Laws.Bits64
import Derived.IntWalk
set_option linter.unusedVariables false
namespace Go.Proofs.YtpkhghjmelgpeaaGreat.Wk
open Go.ChangeShapes Go.WideShapes Go.ChangeAt Go.RowKit M

def posOf (os : List Nat) (t : Nat) : Nat := (os.filter fun x => decide (x < t)).length
theorem pos_eq {os : List Nat} {t q : Nat} (h : Pos os t q) : q = posOf os t := by
  obtain ⟨h1, h2, h3⟩ := h
  unfold posOf
  rw [← List.take_append_drop q os, List.filter_append]
  have e1 : (os.take q).filter (fun x => decide (x < t)) = os.take q := List.filter_eq_self.2 fun x hx => by
    obtain ⟨j, hj⟩ := List.getElem?_of_mem hx
    rw [List.getElem?_take] at hj
    split at hj
    · simpa using h2 j x hj (by assumption)
    · cases hj
  have e2 : (os.drop q).filter (fun x => decide (x < t)) = [] := List.filter_eq_nil_iff.2 fun x hx => by
    obtain ⟨j, hj⟩ := List.getElem?_of_mem hx
    rw [List.getElem?_drop] at hj
    have := h3 _ x hj (by omega)
    simp; omega
  rw [e1, e2, List.append_nil, List.length_take]; omega
def keeps (which : Nat) (os : List Nat) (c : Wr) : Bool := which.testBit (posOf os c.ord)
def surv (which : Nat) (os : List Nat) (b : List UInt8) (l : List Wr) : List UInt8 := l.foldl (fun b c => if keeps which os c then app b c else b) b
theorem surv_snoc (which : Nat) (os : List Nat) (b : List UInt8) (l : List Wr) (c : Wr) : surv which os b (l ++ [c]) = if keeps which os c then app (surv which os b l) c else surv which os b l := by unfold surv; rw [List.foldl_append]; rfl
theorem surv_len (which : Nat) (os : List Nat) (l : List Wr) : ∀ (b : List UInt8), b.length ≤ 4194304 → (∀ c ∈ l, c.at_ + c.text.size ≤ 4194304) → (surv which os b l).length ≤ 4194304 := by
  induction l with
  | nil => intro b hb _; exact hb
  | cons c r ih =>
    intro b hb hc
    show (surv which os (if keeps which os c then app b c else b) r).length ≤ _
    refine ih _ ?_ (fun x hx => hc x (by simp [hx]))
    split
    · have := app_len b c; have := hc c (by simp); omega
    · exact hb

theorem flat_at {α β : Type} (f : α → List β) (z : Nat) (hz : ∀ x, (f x).length = z) : ∀ (l : List α) (k i : Nat) (x : α), l[k]? = some x → i < z → (l.flatMap f)[k * z + i]? = (f x)[i]?
  | [], k, i, x, h, _ => by cases h
  | y :: r, 0, i, x, h, hi => by
    simp at h; subst h
    rw [List.flatMap_cons, Nat.zero_mul, Nat.zero_add, List.getElem?_append_left (by rw [hz]; exact hi)]
  | y :: r, k + 1, i, x, h, hi => by
    simp at h
    rw [List.flatMap_cons, List.getElem?_append_right (by rw [hz, Nat.add_mul]; omega), hz]
    have := flat_at f z hz r k i x h hi
    rw [← this]; congr 1; rw [Nat.add_mul]; omega
theorem bit_fact (W q : Nat) (hW : W < 18446744073709551616) : bits .and .u64 ((W : Int) / 2 ^ min q 64) 1 = if W.testBit q then 1 else 0 := by
  have e1 : ((W : Int) / 2 ^ min q 64) = ((W / 2 ^ min q 64 : Nat) : Int) := by
    rw [Int.natCast_ediv, Int.natCast_pow]; rfl
  have hle : W / 2 ^ min q 64 ≤ W := Nat.div_le_self _ _
  have e0 : bits .and .u64 ((W / 2 ^ min q 64 : Nat) : Int) 1 = (((Int.toNat ((W / 2 ^ min q 64 : Nat) : Int)) &&& (Int.toNat 1) : Nat) : Int) := by
    generalize W / 2 ^ min q 64 = y at hle
    exact u64_and _ _ (by omega) (by omega) (by omega) (by omega)
  rw [e1, e0]
  have e2 : W.testBit q = decide (W / 2 ^ min q 64 % 2 = 1) := by
    rw [Nat.testBit_eq_decide_div_mod_eq]
    by_cases h : q ≤ 64
    · rw [Nat.min_eq_left h]
    · rw [Nat.min_eq_right (by omega)]
      have h1 : W / 2 ^ 64 = 0 := Nat.div_eq_of_lt (by omega)
      have h2 : W / 2 ^ q = 0 := Nat.div_eq_of_lt (Nat.lt_of_lt_of_le (show W < 2 ^ 64 by omega) (Nat.pow_le_pow_right (by omega) (by omega)))
      rw [h1, h2]
  rw [e2]
  have e3 : (Int.toNat ((W / 2 ^ min q 64 : Nat) : Int)) &&& (Int.toNat 1) = W / 2 ^ min q 64 % 2 := by
    rw [Int.toNat_natCast]; exact Nat.and_one_is_mod _
  rw [e3]
  rcases Nat.mod_two_eq_zero_or_one (W / 2 ^ min q 64) with h | h <;> rw [h] <;> simp
def SurvE (w : World) (L : List UInt8) (e : Ending) (w' : World) : Prop :=
  ∃ v', e = .returned v' ∧ Row w' 5 1 v' L.length (bcells L) ∧ Below w.heap.size w w' ∧ ∀ k, blk v' = some k → w.heap.size ≤ k
def SurvRel (w : World) (which : Nat) (os : List Nat) (base : List UInt8) (l : List Wr) (i bv : Value) (wr : World) : Prop :=
  ∃ k : Nat, k ≤ l.length ∧ i = .int .i64 k ∧ Row wr 5 1 bv (surv which os base (l.take k)).length (bcells (surv which os base (l.take k))) ∧ Below w.heap.size w wr ∧ ∀ q, blk bv = some q → w.heap.size ≤ q

set_option maxHeartbeats 8000000 in
set_option maxRecDepth 100000 in
theorem survivors_any (b : Nat) (bv sv uv ov : Value) (base : List UInt8) (uns : List Wr) (os : List Nat) (which : Nat) (w : World)
    (hb : w.heap[b]? = some (.cells #[bv, sv, uv] 121 (0, 0))) (hsv : Row w 5 1 sv base.length (bcells base)) (huv : Row w 149 4 uv uns.length (uns.flatMap wrcells)) (hov : Row w 3 1 ov os.length (icells os)) (hs : os.Pairwise (· ≤ ·))
    (hbl : base.length ≤ 4194304) (hc : ∀ c ∈ uns, c.at_ + c.text.size ≤ 4194304 ∧ c.ord ≤ 1099511627776) (hul : uns.length ≤ 1099511627776) (hol : os.length ≤ 1099511627776) (hw : which < 18446744073709551616) :
    Calls Tryz.prog 68 #[.pointer (some ⟨b, 0, none⟩), .int .u64 which, ov] w (SurvE w (surv which os base (uns.take 64))) := by
  have c1 : w.cell? ⟨b, 1, none⟩ = some sv := cell_blk hb 1
  have hbw := blk_lt hb
  have HCL := Lib.hid (cloneB_any sv base.length (bcells base) w hsv.rd (bcells_one base) (by omega))
  have HB := Lib.hid hb
  have HUV := Lib.hid huv
  have HOV := Lib.hid hov
  have HS := Lib.hid hs
  have HC := Lib.hid hc
  obtain ⟨sa, sc, rfl, _⟩ := hsv.cells
  obtain ⟨oa, oc, rfl, _⟩ := hov.cells
  obtain ⟨l, hl⟩ : ∃ l, l = uns.take 64 := ⟨_, rfl⟩
  have hll : l.length = min uns.length 64 := by rw [hl, List.length_take]; omega
  have HL := Lib.hid hl
  have HLL := Lib.hid hll
  rw [← hl]
  clear hb hsv huv hov hs hc hl hll
  go_enter Tryz.func68, Tryz.ntmps68
  go_wp2_with fail
  refine HCL.out.mono ?_
  rintro e w1 ⟨v1, rfl, hr1, hb1, hk1⟩
  have hbw1 := (hb1.block b hbw).trans HB.out
  have huv1 := HUV.out.kept (w' := w1) fun k hk => hb1.block k (HUV.out.lt k hk)
  obtain ⟨ua, uc, rfl, _, hue⟩ := huv1.cells
  have hun : uns.length ≤ uc := by
    rcases huv1.2 with ⟨h0, a', hv⟩ | ⟨g, cap, cur, hv, _, _, hn, _⟩
    · omega
    · cases hv; exact hn
  have d2 : w1.cell? ⟨b, 2, none⟩ = some (.slice ua uns.length uc) := cell_blk hbw1 2
  have HRK := Lib.hid (risked_any b uns.length uc ua w1 d2 hun hul)
  obtain ⟨va, vc, rfl, _⟩ := hr1.cells
  have HR1 := Lib.hid hr1
  have HB1 := Lib.hid hb1
  have HK1 := Lib.hid hk1
  have HUE := Lib.hid hue
  clear hr1 hb1 hk1 hbw1 huv1 hue d2 HCL c1
  go_wp2_with fail
  refine HRK.out.mono ?_
  rintro e w2 ⟨rfl, rfl⟩
  rw [← HLL.out]
  clear HRK
  have hl64 : l.length ≤ 64 := by have := HLL.out; omega
  go_wp2
  go_loopw [20, 7] (fun i bv wr => SurvRel w which os base l i bv wr) (fun i _ _ => l.length - (intOf i).toNat)
  case atStart => exact ⟨0, Nat.zero_le _, rfl, HR1.out, HB1.out.trans ⟨rfl, rfl, rfl, Nat.le_refl _, fun _ _ => rfl⟩, HK1.out⟩
  case round =>
    obtain ⟨k, hk, rfl, hr, hbr, hkr⟩ := hrel
    by_cases hlt : k < l.length
    · obtain ⟨c, hx⟩ : ∃ c, l[k]? = some c := ⟨_, List.getElem?_eq_getElem hlt⟩
      have hxu : uns[k]? = some c := by rw [HL.out, List.getElem?_take] at hx; split at hx; exact hx; cases hx
      obtain ⟨hc1, hc2⟩ := HC.out c (List.mem_of_getElem? hxu)
      obtain ⟨_, _, e0, _, huw⟩ := HUV.out.cells
      cases e0
      have hat := fun i hi => flat_at wrcells 4 (fun _ => rfl) uns k i c hxu hi
      obtain ⟨gb, rfl, u0⟩ := huw (k * 4) (.int .i64 c.ord) (by have := hat 0 (by omega); simpa [wrcells] using this)
      obtain ⟨_, e1, u1⟩ := huw (k * 4 + 1) (.bool c.emp) (by have := hat 1 (by omega); simpa [wrcells] using this)
      cases e1
      obtain ⟨_, e1, u2⟩ := huw (k * 4 + 2) (.int .i64 c.at_) (by have := hat 2 (by omega); simpa [wrcells] using this)
      cases e1
      obtain ⟨_, e1, u3⟩ := huw (k * 4 + 3) (.string c.text) (by have := hat 3 (by omega); simpa [wrcells] using this)
      cases e1
      have hgl : gb < w.heap.size := World.block_lt_of_cell? w ⟨gb, k * 4, none⟩ u0
      have k0 := (hbr.cell (p := ⟨gb, k * 4, none⟩) hgl).trans u0
      have k1 := (hbr.cell (p := ⟨gb, k * 4 + 1, none⟩) hgl).trans u1
      have k2 := (hbr.cell (p := ⟨gb, k * 4 + 2, none⟩) hgl).trans u2
      have k3 := (hbr.cell (p := ⟨gb, k * 4 + 3, none⟩) hgl).trans u3
      obtain ⟨co, ce, ca, ct⟩ := c
      simp only at k0 k1 k2 k3 hc1 hc2
      obtain ⟨X, hX⟩ : ∃ X, X = wr.alloc (.cells #[.int .i64 co, .bool ce, .int .i64 ca, .string ct] 149) := ⟨_, rfl⟩
      have hBX : Below wr.heap.size wr X := by rw [hX]; exact (Below.refl _ _).alloc (Nat.le_refl _) _
      have hXb : X.heap[wr.heap.size]? = some (.cells #[.int .i64 co, .bool ce, .int .i64 ca, .string ct] 149 (0, 0)) := by rw [hX]; exact heap_alloc_new wr _
      have hXs : X.heap.size = wr.heap.size + 1 := by rw [hX]; simp
      have hov : Row X 3 1 (.slice oa os.length oc) os.length (icells os) := HOV.out.kept fun q hq => (hBX.block q (Nat.lt_of_lt_of_le (HOV.out.lt q hq) hbr.size)).trans (hbr.block q (HOV.out.lt q hq))
      have hrX : Row X 5 1 _ _ _ := hr.kept (w' := X) fun q hq => hBX.block q (hr.lt q hq)
      have hbs := bs_any _ os co X hov hol hc2 HS.out
      obtain ⟨ra, rc, rfl, _⟩ := hr.cells
      have HBS := Lib.hid hbs
      have HXB := Lib.hid hXb
      have HX := Lib.hid hX
      have HBX := Lib.hid hBX
      have HRX := Lib.hid hrX
      have HBR := Lib.hid hbr
      have HKR := Lib.hid hkr
      have HXK := Lib.hid hx
      have HXS := Lib.hid hXs
      clear hbs hXb hX hBX hrX hbr hkr hx hr hxu huw hat u0 u1 u2 u3 hov hXs HUE
      go_wp2_with fail
      rw [← HX.out]
      refine HBS.out.mono ?_
      rintro e w' ⟨q, fd, rfl, hpos, rfl⟩
      have hq : q = posOf os co := pos_eq hpos
      have hql : q ≤ 1099511627776 := by have := hpos.1; omega
      have HQ := Lib.hid hq
      obtain ⟨b0, b1, b2, b3, bf⟩ := box4 HXB.out
      have hbit := bit_fact which q hw
      clear hpos
      have hkp : keeps which os ⟨co, ce, ca, ct⟩ = which.testBit q := by unfold keeps; rw [hq]
      have hcl : k < l.length := hlt
      have et : l.take (k + 1) = l.take k ++ [⟨co, ce, ca, ct⟩] := by
        rw [List.take_succ_eq_append_getElem hlt]
        congr 2
        exact (List.getElem?_eq_some_iff.1 HXK.out).2
      have ET := Lib.hid et
      have HKP := Lib.hid hkp
      have hsl : (surv which os base (l.take k)).length ≤ 4194304 := surv_len which os _ base hbl (fun x hx => (HC.out x (by have := List.mem_of_mem_take hx; rw [HL.out] at this; exact List.mem_of_mem_take this)).1)
      have HAP := Lib.hid (apply_all co ce ca ct _ _ X HRX.out hsl hc1)
      clear hq et hkp
      cases hbq : which.testBit q
      · rw [hbq] at hbit HKP
        simp only [Bool.false_eq_true, if_false] at hbit
        clear hbq
        go_wp2
        go_roundw
        case rel =>
          refine ⟨k + 1, by omega, by go_num, ?_, HBR.out.trans (HBX.out.mono HBR.out.size), HKR.out⟩
          rw [ET.out, surv_snoc, HKP.out]
          exact HRX.out
        case measure => simp [intOf]; omega
      · rw [hbq] at hbit HKP
        simp only [if_true] at hbit
        clear hbq
        go_wp2_with fail
        refine HAP.out.mono ?_
        rintro e w4 ⟨v4, rfl, hr4, hg4, hb4⟩
        have HG4 := Lib.hid hg4
        have HR4 := Lib.hid hr4
        have HB4 := Lib.hid hb4
        clear hr4 hg4 hb4 hbit
        go_wp2
        go_roundw
        case rel =>
          have hxs := HXS.out
          have hws := HBR.out.size
          refine ⟨k + 1, by omega, by go_num, ?_, ⟨HG4.out.os.trans ((HBR.out.trans (HBX.out.mono HBR.out.size)).os), HG4.out.tape.trans ((HBR.out.trans (HBX.out.mono HBR.out.size)).tape), HG4.out.output.trans ((HBR.out.trans (HBX.out.mono HBR.out.size)).output), by have := HG4.out.size; omega, fun z hz => (HG4.out.block z (by omega) (fun e => by have := HKR.out z e.symm; omega)).trans ((HBR.out.trans (HBX.out.mono HBR.out.size)).block z hz)⟩, fun z hz => ?_⟩
          · rw [ET.out, surv_snoc, HKP.out, if_pos rfl]
            exact HR4.out
          · rcases HB4.out with e | e
            · rw [hz] at e; exact HKR.out z e.symm
            · have := e z hz; omega
        case measure => simp [intOf]; omega
    · obtain rfl : k = l.length := by omega
      rw [List.take_length] at hr
      have H1 := Lib.hid hr
      have H2 := Lib.hid hbr
      have H3 := Lib.hid hkr
      clear hr hbr hkr
      go_wp2
      go_ret
      exact ⟨_, rfl, H1.out, H2.out, H3.out⟩
end Go.Proofs.YtpkhghjmelgpeaaGreat.Wk
