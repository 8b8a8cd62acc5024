/- WorldSynced. -/
import Derived.Test.YtpkhghjmelgpeaaW37
import Derived.Test.YtpkhghjmelgpeaaM6
import Derived.Deep.SlicePairs
set_option linter.unusedVariables false
namespace Go.Proofs.Ytpkhghjmelgpeaa.Wk
open Go.ChangeShapes Go.WideShapes Go.ChangeAt Go.RowKit M Go.Maps Go.Proofs

theorem cellsFl : Try.prog.cellsOf 37 = 2 := by kernel_rfl
theorem cellsStr : Try.prog.cellsOf 9 = 1 := by kernel_rfl
theorem spot_none {w : World} {a : Addr} {v : Value} (h : w.cell? a = some v) : ∃ b off, a = ⟨b, off, none⟩ := by
  obtain ⟨b, off, sp⟩ := a
  cases sp with
  | none => exact ⟨b, off, rfl⟩
  | some n =>
    unfold World.cell? at h
    split at h
    · simp at h
    · cases h
theorem addr_add (b off j : Nat) : (⟨b, off, none⟩ : Addr).add j = ⟨b, off + j, none⟩ := by
  unfold Addr.add; split
  · rename_i h; subst h; rfl
  · rfl
theorem cell_lt {w : World} {a : Addr} {v : Value} (h : w.cell? a = some v) : a.block < w.heap.size := by
  rcases Nat.lt_or_ge a.block w.heap.size with h1 | h1
  · exact h1
  · unfold World.cell? at h
    rw [Array.getElem?_eq_none h1] at h
    simp at h
set_option maxRecDepth 100000 in
/-- A list of files that came in. -/
theorem open_files {H : Type} {enc : TypeId × Value → H} {w : World} {base : Nat} {v : Value} {d : DataW H} {p : List MemPlace} (hv : Value.okWide Try.prog w .any base 22 v) (h : DataW.Trod enc Try.prog w 0 (fun _ => true) true 22 v d p) :
    ∃ F : List (ByteArray × ByteArray), FlS w v F ∧ F.length ≤ maxLen ∧ ∀ x ∈ F, x.1.size ≤ maxLen ∧ x.2.size ≤ maxLen := by
  obtain ⟨a0, len0, cap0, rfl⟩ := okWide_slice Try.underlying22 hv
  obtain ⟨m, hm⟩ := h
  have hcs : (Value.slice a0 len0 cap0).cells.toList = [.slice a0 len0 cap0] := rfl
  rw [hcs] at hm
  rcases Go.Deep.open_slice_pairs Try.underlying22 Try.underlying37 cellsFl rfl rfl cellsStr cellsStr hm with ⟨h1, _⟩ | ⟨a, len, cap, mm, n, V0, V1, D0, D1, P0, P1, h1, _, hl, hcm, hmm, _, hx⟩
  · injection h1 with h1 _
    injection h1 with e1 e2 e3
    subst e1 e2 e3
    exact ⟨[], ⟨none, 0, rfl, fun k x hx => by simp at hx⟩, Nat.zero_le _, fun x hx => by cases hx⟩
  · injection h1 with h1 _
    injection h1 with e1 e2 e3
    subst e1 e2 e3
    simp only [if_true] at hmm
    have hget : ∀ i, i < len0 → ∃ s t : ByteArray, V0 i = .string s ∧ V1 i = .string t ∧ s.size ≤ maxLen ∧ t.size ≤ maxLen := by
      intro i hi
      obtain ⟨_, _, h2, h3⟩ := hx i (by omega)
      obtain ⟨s, e1, _, b1⟩ := DataW.trod_string Try.underlying9 h2
      obtain ⟨t, e2, _, b2⟩ := DataW.trod_string Try.underlying9 h3
      injection e1 with e1 _
      injection e2 with e2 _
      exact ⟨s, t, e1, e2, b1, b2⟩
    obtain ⟨f, hf⟩ := Go.Deep.choose_lt (α := ByteArray × ByteArray) (p := fun i q => V0 i = .string q.1 ∧ V1 i = .string q.2 ∧ q.1.size ≤ maxLen ∧ q.2.size ≤ maxLen) (n := len0) (fun i hi => by
      obtain ⟨s, t, h⟩ := hget i hi; exact ⟨(s, t), h⟩)
    refine ⟨(List.range len0).map f, ⟨some a, cap0, by simp, fun k x hk => ?_⟩, by simp; omega, fun x hk => ?_⟩
    · have hkl : k < len0 := by have := (List.getElem?_eq_some_iff.1 hk).1; simpa using this
      rw [List.getElem?_map, List.getElem?_range hkl] at hk
      simp at hk; subst hk
      obtain ⟨c0, c1, _, _⟩ := hx k (by omega)
      obtain ⟨b0, _, _, _⟩ := hx 0 (by omega)
      rw [show a.add (0 * 2) = a from rfl] at b0
      obtain ⟨b, off, rfl⟩ := spot_none b0
      rw [addr_add] at c0 c1
      rw [(hf k hkl).1] at c0
      rw [(hf k hkl).2.1] at c1
      exact ⟨b, off, rfl, c0, c1⟩
    · obtain ⟨i, hi, rfl⟩ := List.mem_map.1 hk
      have hil := List.mem_range.1 hi
      exact ⟨(hf i hil).2.2.1, (hf i hil).2.2.2⟩

theorem tl_eq {a b : ByteArray} : a.toList = b.toList ↔ a = b := by
  rw [ByteArray.toList_eq, ByteArray.toList_eq]
  exact ⟨strOf_inj, fun e => by rw [e]⟩
def SynE (w : World) (e : Ending) (w' : World) : Prop := e = .returned (.bool true) ∧ Below w.heap.size w w'
/-- The loop of WorldSynced: so many files of that name so far. -/
def SynRel (L : List (ByteArray × ByteArray)) (to_ : ByteArray) (n i : Value) : Prop := ∃ k : Nat, k ≤ L.length ∧ i = .int .i64 k ∧ n = .int .i64 ((L.take k).filter fun x => decide (x.1 = to_)).length
theorem filter_step {L : List (ByteArray × ByteArray)} {to_ : ByteArray} {k : Nat} {x : ByteArray × ByteArray} (hx : L[k]? = some x) : ((L.take (k + 1)).filter fun x => decide (x.1 = to_)).length = ((L.take k).filter fun x => decide (x.1 = to_)).length + (if x.1 = to_ then 1 else 0) := by
  rw [List.take_add_one, hx, Option.toList_some, List.filter_append, List.length_append]
  congr 1
  by_cases h : x.1 = to_ <;> simp [h]
set_option maxHeartbeats 4000000 in
set_option maxRecDepth 100000 in
theorem WorldSynced_in (F : List (ByteArray × ByteArray)) (v : Value) (from_ to_ text : ByteArray) (which : Nat) (w : World) (hF : FlS w v F) (hFl : F.length ≤ maxLen) (hFs : ∀ x ∈ F, x.1.size ≤ maxLen ∧ x.2.size ≤ maxLen) (hf : from_.size ≤ maxLen) (ht : to_.size ≤ maxLen) (hx : text.size ≤ maxLen) (hw : which < 18446744073709551616) :
    Calls Try.prog 3 #[v, .string from_, .string to_, .string text, .int .u64 which] w (SynE w) := by
  have HWK := Lib.hid (works_any w)
  obtain ⟨fa, fc, rfl, hcell⟩ := hF
  have HFC := Lib.hid hcell
  have HFS := Lib.hid hFs
  have HFL := Lib.hid hFl
  have Hf := Lib.hid hf
  have Ht := Lib.hid ht
  have Hx := Lib.hid hx
  have Hw := Lib.hid hw
  clear hcell hFs hFl hf ht hx hw
  go_enter Try.func3, Try.ntmps3
  go_wp2_with fail
  refine HWK.out.mono ?_
  rintro e w0 ⟨rfl, hb0⟩
  have hFS0 : FlS w0 (.slice fa F.length fc) F := ⟨fa, fc, rfl, fun k x hx => by
    obtain ⟨b, off, rfl, c0, c1⟩ := HFC.out k x hx
    exact ⟨b, off, rfl, (hb0.cell (p := ⟨b, off + k * 2, none⟩) (cell_lt c0)).trans c0, (hb0.cell (p := ⟨b, off + k * 2 + 1, none⟩) (cell_lt c1)).trans c1⟩⟩
  have HN := Lib.hid (new_any (.slice none 0 0) _ [] F w0 (Row.nil w0 52 3).rd (by decide) hFS0 (by have := HFL.out; unfold maxLen at this; omega) (fun x hx => (HFS.out x hx).1))
  have HB0 := Lib.hid hb0
  clear hb0 hFS0 HWK
  go_wp2_with fail
  refine HN.out.mono ?_
  cases hm : mkNew [] F with
  | none =>
    rintro e w1 ⟨rfl, hb1⟩
    have HB1 := Lib.hid (HB0.out.trans (hb1.mono HB0.out.size))
    clear hb1 hm HB0 HN
    go_wp2
    go_ret
    exact ⟨rfl, HB1.out⟩
  | some S0 =>
    rintro e w1 ⟨p, own1, g1, rfl, hR1, hO1, hB1⟩
    obtain ⟨m1, m2, m3, m4, m5, m6, m7⟩ := mkNew_all hm
    have HR1 := Lib.hid hR1
    have HO1 := Lib.hid hO1
    have HB1 := Lib.hid hB1
    have hBW : ∀ (own' : Own) (w' : World), Fr own1 w1 own' w' noE → Below w.heap.size w w' := fun own' w' hF => HB0.out.trans ((HB1.out.trans (hF.below HB1.out.size HO1.out)).mono HB0.out.size)
    have HBW := Lib.hid hBW
    clear hBW
    have HOP := Lib.hid (open_any own1 w1 p S0 g1 from_ 2 hR1 (by rw [m4]; decide) Hf.out (by rw [m6]; decide) (by rw [m5]; decide))
    by_cases hr : refuses S0 from_ 2 = 0
    · obtain ⟨S1, i, p1, q1, n1⟩ := mid_open m1 m3 m4 m6 m5 hr
      have P1 := Lib.hid p1
      have Q1 := Lib.hid q1
      have N1 := Lib.hid n1
      clear hR1 hO1 hB1 hm m1 m2 m3 m4 m5 m6 m7 hr p1 q1 n1
      go_wp2_with fail
      refine HOP.out.mono ?_
      rintro e w2 hq
      obtain ⟨own2, g2, rfl, hR2, hF2⟩ := Ops.got hq P1.out (.tuple #[.int .i64 1, .int .i64 0]) rfl
      have HF2 := Lib.hid hF2
      have HWR := Lib.hid (write_any own2 w2 p S1 g2 1 text hR2 (by have := Q1.out.told; omega) (by decide) (by have := Q1.out.writes; omega) (by have := Hx.out; unfold maxLen at this; omega))
      clear hq hR2 hF2 HOP
      by_cases hl : text.size ≤ 4194304
      · obtain ⟨S2, p2, q2, n2⟩ := mid_write Q1.out N1.out hl
        have P2 := Lib.hid p2
        have Q2 := Lib.hid q2
        have N2 := Lib.hid n2
        clear p2 q2 n2 hl
        go_wp2_with fail
        refine HWR.out.mono ?_
        rintro e w3 hq
        obtain ⟨own3, g3, rfl, hR3, hF3⟩ := Ops.got hq P2.out (.int .i64 0) rfl
        have HF3 := Lib.hid (HF2.out.trans hF3)
        have HSY := Lib.hid (syncop_any own3 w3 p S2 g3 1 hR3 (by have := Q2.out.told; omega) (by decide) (by have := Q2.out.writes; omega))
        obtain ⟨S3, p3, q3, n3⟩ := mid_sync Q2.out N2.out
        have P3 := Lib.hid p3
        have Q3 := Lib.hid q3
        have N3 := Lib.hid n3
        clear hq hR3 hF3 p3 q3 n3 HWR
        go_wp2_with fail
        refine HSY.out.mono ?_
        rintro e w4 hq
        obtain ⟨own4, g4, rfl, hR4, hF4⟩ := Ops.got hq P3.out (.int .i64 0) rfl
        have HF4 := Lib.hid (HF3.out.trans hF4)
        have HCL := Lib.hid (close_any own4 w4 p S3 g4 1 hR4 (by have := Q3.out.told; omega) (by decide) (fun W wb nb h1 h2 h3 h4 => Close1_does own4 W p S3 1 wb nb h1 h2 h3 h4 (by decide) (fun st => by rw [Q3.out.hs_]; intro h; cases h)))
        obtain ⟨S4, p4, q4, n4⟩ := mid_close Q3.out N3.out
        have P4 := Lib.hid p4
        have Q4 := Lib.hid q4
        have N4 := Lib.hid n4
        clear hq hR4 hF4 p4 q4 n4 HSY
        go_wp2_with fail
        refine HCL.out.mono ?_
        rintro e w5 hq
        obtain ⟨own5, g5, rfl, hR5, hF5⟩ := Ops.got hq P4.out (.int .i64 0) rfl
        have HF5 := Lib.hid (HF4.out.trans hF5)
        have HR5 := Lib.hid hR5
        have HRN := Lib.hid (rename_any own5 w5 p S4 g5 from_ to_ hR5 (by have := Q4.out.told; omega) Hf.out Ht.out)
        clear hq hR5 hF5 HCL HF2 HF3 HF4
        cases hto : isName to_
        · obtain ⟨S5, p5⟩ := mid_rename_bad Q4.out hto
          have P5 := Lib.hid p5
          clear p5 hto
          go_wp2_with fail
          refine HRN.out.mono ?_
          rintro e w6 hq
          obtain ⟨own6, g6, rfl, hR6, hF6⟩ := Ops.got hq P5.out (.int .i64 35) rfl
          have HBE := Lib.hid (HBW.out _ _ (HF5.out.trans hF6))
          clear hq hR6 hF6
          go_wp2
          go_ret
          exact ⟨rfl, HBE.out⟩
        · obtain ⟨S5, p5, q5, r5, s5, t5⟩ := mid_rename HR5.out.wf Q4.out N4.out hto
          have P5 := Lib.hid p5
          have Q5 := Lib.hid q5
          have S5f := Lib.hid s5
          have T5 := Lib.hid t5
          have HTO := Lib.hid hto
          clear p5 hto q5 r5 s5 t5
          go_wp2_with fail
          refine HRN.out.mono ?_
          rintro e w6 hq
          obtain ⟨own6, g6, rfl, hR6, hF6⟩ := Ops.got hq P5.out (.int .i64 0) rfl
          have HB6 := Lib.hid (HBW.out _ _ (HF5.out.trans hF6))
          have HR6 := Lib.hid hR6
          have HLF := Lib.hid (left_any own6 w6 p S5 g6 hR6 (by have := Q5.out; omega) which Hw.out none 0 [] (Row.nil w6 52 3).rd (Nat.le_refl _))
          clear hq hR6 hF6 HRN HF5 HBW HB0 HB1 HO1 HR1
          go_wp2_with fail
          refine HLF.out.mono ?_
          rintro e w7 ⟨px, ownx, gx, ix, rfl, hix, hRx, hOx, hBx⟩
          obtain ⟨L, hL⟩ : ∃ L, L = filesOf (leftSt S5 which ([].take 65536) ix) := ⟨_, rfl⟩
          obtain ⟨hone, hall⟩ := synced_end (text := text) HR6.out.wf hix hRx.wf HTO.out S5f.out T5.out
          rw [← hL] at hone hall
          have HFI := Lib.hid (files_any ownx w7 px _ gx hRx)
          rw [← hL] at HFI
          have hlm : L.length ≤ 64 := by
            have : L.length = named (leftSt S5 which ([].take 65536) ix).fs := by rw [hL]; unfold filesOf sortedNames names named; simp
            rw [this]; exact hRx.wf.full.1
          have HB7 := Lib.hid (HB6.out.trans (hBx.mono HB6.out.size))
          have HONE := Lib.hid hone
          have HALL := Lib.hid hall
          clear hRx hOx hBx hix hL hone hall HB6 HLF HR6
          go_wp2_with fail
          refine HFI.out.mono ?_
          rintro e w8 ⟨vx, rfl, hr8, hb8, hk8⟩
          obtain ⟨la, lc, rfl, _, hle⟩ := hr8.cells
          have HB8 := Lib.hid (HB7.out.trans (hb8.mono HB7.out.size))
          have HLE := Lib.hid hle
          clear hr8 hb8 hk8 hle HFI HB7
          go_wp2
          go_loop [20, 21] (fun n i => SynRel L to_ n i) (fun _ i => L.length - (intOf i).toNat)
          case atStart => exact ⟨0, Nat.zero_le _, rfl, rfl⟩
          case round =>
            obtain ⟨k, hk, rfl, rfl⟩ := hrel
            by_cases hlt : k < L.length
            · obtain ⟨x, hx⟩ : ∃ x, L[k]? = some x := ⟨_, List.getElem?_eq_getElem hlt⟩
              obtain ⟨h1, h2⟩ := HALL.out x (List.mem_of_getElem? hx)
              have hat := fun i hi => flat_at flcells 2 (fun _ => rfl) L k i x hx hi
              obtain ⟨gb, rfl, u0⟩ := HLE.out (k * 2) (.string x.1) (by have := hat 0 (by omega); simpa [flcells] using this)
              obtain ⟨_, e1, u1⟩ := HLE.out (k * 2 + 1) (.string x.2) (by have := hat 1 (by omega); simpa [flcells] using this)
              cases e1
              have HH1 := Lib.hid h1
              have HH2 := Lib.hid h2
              have HXX := Lib.hid hx
              have hat' := Lib.hid hat
              clear h1 h2 hx hat
              obtain ⟨cnt, hcnt⟩ : ∃ cnt, cnt = ((L.take k).filter fun x => decide (x.1 = to_)).length := ⟨_, rfl⟩
              have hcl : cnt ≤ 64 := by rw [hcnt]; refine Nat.le_trans (List.length_filter_le _ _) ?_; rw [List.length_take]; omega
              have HSTEP := filter_step (to_ := to_) HXX.out
              rw [← hcnt] at HSTEP
              rw [← hcnt]
              have HST := Lib.hid HSTEP
              clear HSTEP hcnt
              by_cases e1 : x.1 = to_
              · have e2 := HH1.out e1
                have HE1 := Lib.hid e1
                have b1 : (x.1.toList == to_.toList) = true := by rw [e1]; simp
                have b2 : (x.2.toList == text.toList) = true := by rw [e2]; simp
                by_cases e3 : from_ = to_
                · have b3 : x.1.toList = from_.toList := by rw [e1, e3]
                  have b4 : (from_.toList == to_.toList) = true := by rw [e3]; simp
                  clear e1 e2 e3
                  go_wp2
                  all_goals go_round
                  case rel => exact ⟨k + 1, by omega, by go_num, by rw [HST.out, if_pos HE1.out]; go_num⟩
                  case measure => simp [intOf]; omega
                · have b3 : ¬ x.1.toList = from_.toList := fun e => e3 ((tl_eq.1 e).symm.trans e1)
                  clear e1 e2 e3
                  go_wp2
                  all_goals go_round
                  case rel => exact ⟨k + 1, by omega, by go_num, by rw [HST.out, if_pos HE1.out]; go_num⟩
                  case measure => simp [intOf]; omega
              · have b1 : (x.1.toList == to_.toList) = false := by simpa using fun e => e1 (tl_eq.1 e)
                have b3 : ¬ x.1.toList = from_.toList := fun e => e1 ((tl_eq.1 e).trans (HH2.out (tl_eq.1 e)))
                have HE1 := Lib.hid e1
                clear e1
                go_wp2
                all_goals go_round
                case rel => exact ⟨k + 1, by omega, by go_num, by rw [HST.out, if_neg HE1.out]; rfl⟩
                case measure => simp [intOf]; omega
            · obtain rfl : k = L.length := by omega
              rw [List.take_length]
              rw [HONE.out]
              go_wp2
              go_ret
              exact ⟨rfl, HB8.out⟩
      · obtain ⟨S2, p2⟩ := mid_write_full Q1.out (by omega : 4194304 < text.size)
        have P2 := Lib.hid p2
        clear p2 hl
        go_wp2_with fail
        refine HWR.out.mono ?_
        rintro e w3 hq
        obtain ⟨own3, g3, rfl, hR3, hF3⟩ := Ops.got hq P2.out (.int .i64 34) rfl
        have HBE := Lib.hid (HBW.out _ _ (HF2.out.trans hF3))
        clear hq hR3 hF3
        go_wp2
        go_ret
        exact ⟨rfl, HBE.out⟩
    · obtain ⟨S1, p1⟩ := mid_open_err (name := from_) (m := 2) m1 m3 hr
      have P1 := Lib.hid p1
      obtain ⟨er, her⟩ : ∃ er, er = refuses S0 from_ 2 := ⟨_, rfl⟩
      rw [← her] at hr P1
      have heb : (er == 0) = false := by simpa using hr
      clear hR1 hO1 hB1 hm m1 m2 m3 m4 m5 m6 m7 hr p1 her
      go_wp2_with fail
      refine HOP.out.mono ?_
      rintro e w2 hq
      obtain ⟨own2, g2, rfl, hR2, hF2⟩ := Ops.got hq P1.out (.tuple #[.int .i64 0, .int .i64 er]) rfl
      have HBE := Lib.hid (HBW.out _ _ hF2)
      clear hq hR2 hF2
      go_wp2
      go_ret
      exact ⟨rfl, HBE.out⟩
end Go.Proofs.Ytpkhghjmelgpeaa.Wk
