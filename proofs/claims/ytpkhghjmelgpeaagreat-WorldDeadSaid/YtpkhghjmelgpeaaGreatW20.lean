/- Open. -/
import Derived.Test.YtpkhghjmelgpeaaGreatW19
set_option linter.unusedVariables false
namespace Go.Proofs.YtpkhghjmelgpeaaGreat.Wk
open Go.ChangeShapes Go.WideShapes Go.ChangeAt Go.RowKit M

theorem actOpen_err {name : ByteArray} {mode : Int} {s : St} {c : Ch} {d : Dd} (h : refuses s name mode ≠ 0) : actOpen name mode s c d = (s, { d with err := refuses s name mode }) := by unfold actOpen; rw [if_pos h]
theorem actOpen_ok {name : ByteArray} {mode : Int} {s s1 : St} {i : Nat} {c : Ch} {d : Dd} (h : refuses s name mode = 0) (hm : made s name = (s1, i)) : actOpen name mode s c d = ({ (if mode = 2 then change s1 i true 0 noS else s1) with hs := (if mode = 2 then change s1 i true 0 noS else s1).hs ++ [.file false i mode 0] }, { d with handle := (if mode = 2 then change s1 i true 0 noS else s1).hs.length + 1, err := 0 }) := by
  unfold actOpen; rw [if_neg (by simp [h]), hm]
theorem refuses_0 {s : St} {name : ByteArray} {mode : Int} (h : refuses s name mode = 0) : isName name = true ∧ 1 ≤ mode ∧ mode ≤ 3 ∧ live s.hs ≠ 32 ∧ (find s.fs name = none → named s.fs ≠ 64) := by
  unfold M.refuses at h
  split at h
  · cases h
  · split at h
    · cases h
    · split at h
      · cases h
      · split at h
        · cases h
        · rename_i h1 h2 h3 h4
          refine ⟨by simpa using h1, by omega, by omega, fun e => h4 (.inl e), fun e1 e2 => h4 (.inr ⟨e1, e2⟩)⟩
theorem told_open (name : ByteArray) (mode : Int) (s : St) (c : Ch) (d : Dd) : (actOpen name mode s c d).1.told = s.told := by
  unfold actOpen made
  split
  · rfl
  · cases find s.fs name <;> (simp only; split <;> rfl)

set_option maxHeartbeats 8000000 in
set_option maxRecDepth 100000 in
theorem Open1_does (own : Own) (w : World) (p : Nat) (s : St) (name : ByteArray) (mode : Int) (wb nb mb : Nat) (hwb : w.heap[wb]? = some (.cells #[.pointer (some ⟨p, 0, none⟩)] 29 (0, 0))) (hwo : own wb = none) (hnb : w.heap[nb]? = some (.cells #[.string name] 9 (0, 0))) (hno : own nb = none) (hmb : w.heap[mb]? = some (.cells #[.int .i64 mode] 3 (0, 0))) (hmo : own mb = none)
    (hns : name.size ≤ maxLen) (hw : s.writes ≤ 1099511627776) (hhl : s.hs.length ≤ 1099511627776) :
    Does own w p 89 #[.pointer (some ⟨wb, 0, none⟩), .pointer (some ⟨nb, 0, none⟩), .pointer (some ⟨mb, 0, none⟩)] s ⟨1, 0, name, noS, mode, 0⟩ (actOpen name mode) := by
  intro own1 w1 g1 db k n t hc hR hdb hbox hF
  have hwb1 := (hF.kept _ (blk_lt hwb) hwo (fun e => e)).trans hwb
  have hnb1 := (hF.kept _ (blk_lt hnb) hno (fun e => e)).trans hnb
  have hmb1 := (hF.kept _ (blk_lt hmb) hmo (fun e => e)).trans hmb
  have hwl1 := blk_lt hwb1
  have hnl1 := blk_lt hnb1
  have hml1 := blk_lt hmb1
  have hdl1 := blk_lt hbox
  have hwo1 : own1 wb = none := (hF.old _ (blk_lt hwb)).trans hwo
  have hmo1 : own1 mb = none := (hF.old _ (blk_lt hmb)).trans hmo
  obtain ⟨X, hX⟩ : ∃ X, X = w1.alloc (.cells #[.int .u8 k, .int .i64 n, .string t] 63) := ⟨_, rfl⟩
  have hXk : ∀ q, q < w1.heap.size → X.heap[q]? = w1.heap[q]? := fun q hq => by rw [hX]; exact Below.heap_alloc _ _ _ hq
  have hRX : Rep own1 X p { s with ch := s.ch.tail } g1 ∧ Fr own1 w1 own1 X noE := by rw [hX]; exact alloc_rep hR _
  obtain ⟨hRX, hFX⟩ := hRX
  have cw := cell_blk ((hXk wb hwl1).trans hwb1) 0
  have cn := cell_blk ((hXk nb hnl1).trans hnb1) 0
  have cm := cell_blk ((hXk mb hml1).trans hmb1) 0
  have cp := cell_blk hRX.wcell 4
  have hXz := hFX.size
  have hXp := blk_lt hRX.wcell
  have vw := cell_blk hwb1 0
  have vn := cell_blk hnb1 0
  have vm := cell_blk hmb1 0
  have hlook := look_f (hRX.kept (w' := X.drew) hRX.owns (fun _ _ e => e) (fun _ _ _ _ => rfl)) name hns
  have HREF := Lib.hid (refuses_any own1 X p _ g1 name mode hRX hns)
  have HX := Lib.hid hX
  have HWB := Lib.hid hwb1
  have HMB := Lib.hid hmb1
  have HB := Lib.hid hbox
  have HF := Lib.hid hF
  clear hwb1 hmb1 hnb1 hwb hnb hmb hX hF
  by_cases hr : refuses { s with ch := s.ch.tail } name mode = 0
  · obtain ⟨r1, r2, r3, r4, r5⟩ := refuses_0 hr
    have hlv : live s.hs < 32 := by have := hR.wf.full.2; simp only at this r4; omega
    rw [hr] at HREF
    have hFXd : Fr own1 w1 own1 X.drew noE := ⟨hFX.os, hFX.tape, hFX.output, hFX.size, hFX.old, hFX.kept⟩
    have hRXd : Rep own1 X.drew p { s with ch := s.ch.tail } g1 := hRX.kept hRX.owns (fun _ _ e => e) (fun _ _ _ _ => rfl)
    cases hf : find s.fs name with
    | some i =>
      rw [show find ({ s with ch := s.ch.tail } : St).fs name = some i from hf] at hlook
      simp only [fval] at hlook
      obtain ⟨f, hfi, _⟩ := find_some hf
      have hmade : made { s with ch := s.ch.tail } name = ({ s with ch := s.ch.tail }, i) := by unfold made; simp only; rw [hf]
      have hA := actOpen_ok (d := ⟨1, 0, name, noS, mode, 0⟩) (c := ⟨k, n, t⟩) hr hmade
      have hlt : i < s.fs.length := (List.getElem?_eq_some_iff.1 hfi).1
      by_cases hm2 : mode = 2
      · rw [if_pos hm2] at hA
        have hmb2 : (mode == 2) = true := by simpa using hm2
        have hch := change_any own1 X.drew p _ g1 hRXd i f hfi 0 true 0 noS (by simp [noS, ByteArray.size]) hw
        have HCH := Lib.hid hch
        have HA := Lib.hid hA
        have HFXD := Lib.hid hFXd
        clear hch hA hFXd hRXd hFX hRX hR hr hf hmade hm2 r4 r5 hfi hbox
        go_enter Tryz.func89, Tryz.ntmps89
        go_wp2_with fail
        rw [← HX.out]
        refine HREF.out.mono ?_
        rintro e w' ⟨rfl, rfl⟩
        go_wp2
        go_region
        go_wp2_with fail
        refine HCH.out.mono ?_
        rintro e Y ⟨own2, rfl, hR2, hF2'⟩
        have hF2 := HFXD.out.trans hF2'
        clear hF2' hlook cw cn cm cp
        have hwbY := (hF2.kept wb hwl1 hwo1 (fun e => e)).trans HWB.out
        have hmbY := (hF2.kept mb hml1 hmo1 (fun e => e)).trans HMB.out
        have cwY := cell_blk hwbY 0
        have cmY := cell_blk hmbY 0
        have hdbY := (hF2.kept db hdl1 hdb (fun e => e)).trans HB.out
        have hdbO : own2 db = none := (hF2.old _ hdl1).trans hdb
        have hwbs : wb < Y.heap.size := Nat.lt_of_lt_of_le hwl1 hF2.size
        have hmbs : mb < Y.heap.size := Nat.lt_of_lt_of_le hml1 hF2.size
        have hdbs : db < Y.heap.size := Nat.lt_of_lt_of_le hdl1 hF2.size
        have hRZ := alloc_rep hR2 (.cells #[.bool false, .pointer (some ⟨g1.fb i, 0, none⟩), .int .i64 mode, .int .i64 0] 144)
        have his := issue_any own2 Y _ p _ _ hRZ.1 Y.heap.size 138 (.file false i mode 0) hRZ.2 (Nat.le_refl _) (by simp) (fun _ => rfl) rfl rfl (fun b i' m' a' e => by cases e; exact ⟨by show i < (s.fs.modify i _).length; simpa using hlt, Nat.zero_le _⟩) (fun own' W e1 e2 => ⟨e1, _, e2.trans (heap_alloc_new _ _), fun _ => rfl⟩) hlv hhl (owns_none hR2.owns (Nat.le_refl _))
        have HIS := Lib.hid his
        have HF2 := Lib.hid hF2
        have HDY := Lib.hid hdbY
        have HDO := Lib.hid hdbO
        clear his hRZ hF2 hR2 hwbY hmbY hdbY hdbO
        go_wp2_with (go_at_call 92; refine HIS.out.mono ?_; rintro e w4 ⟨own4, g4, rfl, hR4, hF4⟩; have hd4 := (hF4.kept db hdbs HDO.out (fun e => e)).trans HDY.out; have d41 := cell_blk hd4 1; have d4f := frozen_blk hd4 1; have HR4 := Lib.hid hR4; have HF4 := Lib.hid hF4; have HD4 := Lib.hid hd4; clear hR4 hF4 hd4)
        go_ret
        obtain ⟨z1, z2⟩ := set1_rep HR4.out db 1 ((HF4.out.old _ hdbs).trans HDO.out) (.int .i64 ((s.hs.length : Int) + 1))
        refine ⟨own4, g4, by rw [HA.out]; rfl, by rw [HA.out]; exact z1, ?_, ((HF2.out.weak _).trans (HF4.out.weak _)).trans z2⟩
        rw [HA.out]; exact blk_set HD4.out 1 _
      · rw [if_neg hm2] at hA
        have hmb2 : (mode == 2) = false := by simpa using hm2
        have hR2 := hRXd
        have hF2 := hFXd
        have own2 := own1
        have HA := Lib.hid hA
        have hwbY := (hF2.kept wb hwl1 hwo1 (fun e => e)).trans HWB.out
        have hmbY := (hF2.kept mb hml1 hmo1 (fun e => e)).trans HMB.out
        have cwY := cell_blk hwbY 0
        have cmY := cell_blk hmbY 0
        have hdbY := (hF2.kept db hdl1 hdb (fun e => e)).trans HB.out
        have hdbO : own1 db = none := (hF2.old _ hdl1).trans hdb
        have hwbs : wb < X.drew.heap.size := Nat.lt_of_lt_of_le hwl1 hF2.size
        have hmbs : mb < X.drew.heap.size := Nat.lt_of_lt_of_le hml1 hF2.size
        have hdbs : db < X.drew.heap.size := Nat.lt_of_lt_of_le hdl1 hF2.size
        have hRZ := alloc_rep hR2 (.cells #[.bool false, .pointer (some ⟨g1.fb i, 0, none⟩), .int .i64 mode, .int .i64 0] 144)
        have his := issue_any own1 X.drew _ p _ _ hRZ.1 X.drew.heap.size 138 (.file false i mode 0) hRZ.2 (Nat.le_refl _) (by simp) (fun _ => rfl) rfl rfl (fun b i' m' a' e => by cases e; exact ⟨hlt, Nat.zero_le _⟩) (fun own' W e1 e2 => ⟨e1, _, e2.trans (heap_alloc_new _ _), fun _ => rfl⟩) hlv hhl (owns_none hR2.owns (Nat.le_refl _))
        have HIS := Lib.hid his
        have HF2 := Lib.hid hF2
        have HDY := Lib.hid hdbY
        have HDO := Lib.hid hdbO
        clear his hRZ hF2 hR2 hwbY hmbY hdbY hdbO
        clear hA hFXd hRXd hFX hRX hR hr hf hmade hm2 r4 r5 hfi hbox
        go_enter Tryz.func89, Tryz.ntmps89
        go_wp2_with fail
        rw [← HX.out]
        refine HREF.out.mono ?_
        rintro e w' ⟨rfl, rfl⟩
        go_wp2
        go_region
        go_wp2_with (go_at_call 92; refine HIS.out.mono ?_; rintro e w4 ⟨own4, g4, rfl, hR4, hF4⟩; have hd4 := (hF4.kept db hdbs HDO.out (fun e => e)).trans HDY.out; have d41 := cell_blk hd4 1; have d4f := frozen_blk hd4 1; have HR4 := Lib.hid hR4; have HF4 := Lib.hid hF4; have HD4 := Lib.hid hd4; clear hR4 hF4 hd4)
        go_ret
        obtain ⟨z1, z2⟩ := set1_rep HR4.out db 1 ((HF4.out.old _ hdbs).trans HDO.out) (.int .i64 ((s.hs.length : Int) + 1))
        refine ⟨own4, g4, by rw [HA.out]; rfl, by rw [HA.out]; exact z1, ?_, ((HF2.out.weak _).trans (HF4.out.weak _)).trans z2⟩
        rw [HA.out]; exact blk_set HD4.out 1 _
    | none =>
      rw [show find ({ s with ch := s.ch.tail } : St).fs name = none from hf] at hlook
      simp only [fval] at hlook
      have hnm : named s.fs < 64 := by have := hR.wf.full.1; have := r5 hf; simp only at *; omega
      have hmade : made { s with ch := s.ch.tail } name = ({ s with ch := s.ch.tail, fs := s.fs ++ [⟨name, [], [], []⟩] }, s.fs.length) := by unfold made; simp only; rw [hf]
      have hA := actOpen_ok (d := ⟨1, 0, name, noS, mode, 0⟩) (c := ⟨k, n, t⟩) hr hmade
      have hset := settled_any (.slice none 0 0) [] X.drew (Row.nil _ _ _) (by simp)
      have HSET := Lib.hid hset
      have HRXD := Lib.hid hRXd
      have HFXD := Lib.hid hFXd
      have HFN := Lib.hid hf
      by_cases hm2 : mode = 2
      · rw [if_pos hm2] at hA
        have hmb2 : (mode == 2) = true := by simpa using hm2
        have HA := Lib.hid hA
        clear hset hA hFXd hRXd hFX hRX hR hr hf hmade hm2 r4 r5 hbox
        go_enter Tryz.func89, Tryz.ntmps89
        go_wp2_with fail
        rw [← HX.out]
        refine HREF.out.mono ?_
        rintro e w' ⟨rfl, rfl⟩
        go_wp2
        go_region
        go_wp2_with fail
        refine HSET.out.mono ?_
        rintro e w5 ⟨q, sv, rfl, hqc, hq, hsv, hsl, hb5⟩
        have hb5d : Below X.drew.heap.size X.drew w5.drew := ⟨hb5.os, hb5.tape, hb5.output, hb5.size, hb5.block⟩
        obtain ⟨w6, hru, hm6, hg6⟩ := (ownsMap_tight (ownsMap_kept (w' := w5.drew) HRXD.out.fmap (hb5.block _ (HRXD.out.owns _ (by rw [HRXD.out.fown]; simp))))).update lawS Tryz.underlying87 (by rw [HRXD.out.fis.size]; show named s.fs < maxLen; unfold maxLen; omega) (key := .string name) (val := .pointer (some ⟨q, 0, none⟩)) (Go.WideMaps.keyOf_string_mk Tryz.underlying9 hns) (d := pd q) (ps := []) rfl
        obtain ⟨own5, hR5, hF5'⟩ := newfile_fin HRXD.out (bv := .slice none 0 0) (l := []) r1 hns HFN.out (by simp) hnm hb5d hq hqc (Row.nil _ _ _) hsv (by simp [blk]) hsl (by simp [blk]) hm6 hg6
        have hF5 := HFXD.out.trans hF5'
        obtain ⟨g5, hg5⟩ : ∃ g5 : Gh, g5 = { g1 with Df := g1.Df.put (skey name) (pd q), nf := Maps.size g1.Df + 1, fb := fun k => if k = s.fs.length then q else g1.fb k } := ⟨_, rfl⟩
        have hfq : g5.fb s.fs.length = q := by rw [hg5]; simp
        rw [show ({ g1 with Df := g1.Df.put (skey name) (pd q), nf := Maps.size g1.Df + 1, fb := fun k => if k = ({ s with ch := s.ch.tail } : St).fs.length then q else g1.fb k } : Gh) = g5 from hg5.symm] at hR5
        have HRU := Lib.hid hru
        have q5w : w5.cell? ⟨wb, 0, none⟩ = some (.pointer (some ⟨p, 0, none⟩)) := (hb5.cell (p := ⟨wb, 0, none⟩) (by show wb < X.heap.size; omega)).trans cw
        have q5n : w5.cell? ⟨nb, 0, none⟩ = some (.string name) := (hb5.cell (p := ⟨nb, 0, none⟩) (by show nb < X.heap.size; omega)).trans cn
        have q5p : w5.cell? ⟨p, 4, none⟩ = some (.map (some g1.fm)) := (hb5.cell (p := ⟨p, 4, none⟩) (by show p < X.heap.size; omega)).trans cp
        clear hF5' hg5 hru hm6 hg6 hb5d hqc hq hsv hsl hb5 hlook
        have hch := change_any own5 w6 p _ g5 hR5 s.fs.length ⟨name, [], [], []⟩ (by show (s.fs ++ [_])[s.fs.length]? = _; rw [List.getElem?_append_right (Nat.le_refl _)]; simp) 0 true 0 noS (by simp [noS, ByteArray.size]) hw
        rw [hfq] at hch
        have HCH := Lib.hid hch
        have HF5 := Lib.hid hF5
        have HFQ := Lib.hid hfq
        have hmbY := (hF5.kept mb hml1 hmo1 (fun e => e)).trans HMB.out
        have hwbY := (hF5.kept wb hwl1 hwo1 (fun e => e)).trans HWB.out
        have kw := cell_blk hwbY 0
        have km := cell_blk hmbY 0
        clear hch hR5 hF5 hfq hmbY hwbY
        go_wp2
        have HRU' := HRU.out
        go_region
        clear HRU'
        go_wp2_with fail
        refine HCH.out.mono ?_
        rintro e Y ⟨own2, rfl, hR2, hF2'⟩
        have hF2 := HF5.out.trans hF2'
        clear hF2' cw cn cm cp kw km
        have hwbY := (hF2.kept wb hwl1 hwo1 (fun e => e)).trans HWB.out
        have hmbY := (hF2.kept mb hml1 hmo1 (fun e => e)).trans HMB.out
        have cwY := cell_blk hwbY 0
        have cmY := cell_blk hmbY 0
        have hdbY := (hF2.kept db hdl1 hdb (fun e => e)).trans HB.out
        have hdbO : own2 db = none := (hF2.old _ hdl1).trans hdb
        have hwbs : wb < Y.heap.size := Nat.lt_of_lt_of_le hwl1 hF2.size
        have hmbs : mb < Y.heap.size := Nat.lt_of_lt_of_le hml1 hF2.size
        have hdbs : db < Y.heap.size := Nat.lt_of_lt_of_le hdl1 hF2.size
        have hRZ := alloc_rep hR2 (.cells #[.bool false, .pointer (some ⟨q, 0, none⟩), .int .i64 mode, .int .i64 0] 144)
        have his := issue_any own2 Y _ p _ _ hRZ.1 Y.heap.size 138 (.file false s.fs.length mode 0) hRZ.2 (Nat.le_refl _) (by simp) (fun _ => rfl) rfl rfl (fun b i' m' a' e => by cases e; exact ⟨by show s.fs.length < ((s.fs ++ [_]).modify _ _).length; simp, Nat.zero_le _⟩) (fun own' W e1 e2 => ⟨e1, _, e2.trans (heap_alloc_new _ _), fun _ => by rw [HFQ.out]⟩) hlv hhl (owns_none hR2.owns (Nat.le_refl _))
        have HIS := Lib.hid his
        have HF2 := Lib.hid hF2
        have HDY := Lib.hid hdbY
        have HDO := Lib.hid hdbO
        clear his hRZ hF2 hR2 hwbY hmbY hdbY hdbO
        go_wp2_with (go_at_call 92; refine HIS.out.mono ?_; rintro e w4 ⟨own4, g4, rfl, hR4, hF4⟩; have hd4 := (hF4.kept db hdbs HDO.out (fun e => e)).trans HDY.out; have d41 := cell_blk hd4 1; have d4f := frozen_blk hd4 1; have HR4 := Lib.hid hR4; have HF4 := Lib.hid hF4; have HD4 := Lib.hid hd4; clear hR4 hF4 hd4)
        go_ret
        obtain ⟨z1, z2⟩ := set1_rep HR4.out db 1 ((HF4.out.old _ hdbs).trans HDO.out) (.int .i64 ((s.hs.length : Int) + 1))
        refine ⟨own4, g4, by rw [HA.out]; rfl, by rw [HA.out]; exact z1, ?_, ((HF2.out.weak _).trans (HF4.out.weak _)).trans z2⟩
        rw [HA.out]; exact blk_set HD4.out 1 _
      · rw [if_neg hm2] at hA
        have hmb2 : (mode == 2) = false := by simpa using hm2
        have HA := Lib.hid hA
        clear hset hA hFXd hRXd hFX hRX hR hr hf hmade hm2 r4 r5 hbox
        go_enter Tryz.func89, Tryz.ntmps89
        go_wp2_with fail
        rw [← HX.out]
        refine HREF.out.mono ?_
        rintro e w' ⟨rfl, rfl⟩
        go_wp2
        go_region
        go_wp2_with fail
        refine HSET.out.mono ?_
        rintro e w5 ⟨q, sv, rfl, hqc, hq, hsv, hsl, hb5⟩
        have hb5d : Below X.drew.heap.size X.drew w5.drew := ⟨hb5.os, hb5.tape, hb5.output, hb5.size, hb5.block⟩
        obtain ⟨w6, hru, hm6, hg6⟩ := (ownsMap_tight (ownsMap_kept (w' := w5.drew) HRXD.out.fmap (hb5.block _ (HRXD.out.owns _ (by rw [HRXD.out.fown]; simp))))).update lawS Tryz.underlying87 (by rw [HRXD.out.fis.size]; show named s.fs < maxLen; unfold maxLen; omega) (key := .string name) (val := .pointer (some ⟨q, 0, none⟩)) (Go.WideMaps.keyOf_string_mk Tryz.underlying9 hns) (d := pd q) (ps := []) rfl
        obtain ⟨own5, hR5, hF5'⟩ := newfile_fin HRXD.out (bv := .slice none 0 0) (l := []) r1 hns HFN.out (by simp) hnm hb5d hq hqc (Row.nil _ _ _) hsv (by simp [blk]) hsl (by simp [blk]) hm6 hg6
        have hF5 := HFXD.out.trans hF5'
        obtain ⟨g5, hg5⟩ : ∃ g5 : Gh, g5 = { g1 with Df := g1.Df.put (skey name) (pd q), nf := Maps.size g1.Df + 1, fb := fun k => if k = s.fs.length then q else g1.fb k } := ⟨_, rfl⟩
        have hfq : g5.fb s.fs.length = q := by rw [hg5]; simp
        rw [show ({ g1 with Df := g1.Df.put (skey name) (pd q), nf := Maps.size g1.Df + 1, fb := fun k => if k = ({ s with ch := s.ch.tail } : St).fs.length then q else g1.fb k } : Gh) = g5 from hg5.symm] at hR5
        have HRU := Lib.hid hru
        have q5w : w5.cell? ⟨wb, 0, none⟩ = some (.pointer (some ⟨p, 0, none⟩)) := (hb5.cell (p := ⟨wb, 0, none⟩) (by show wb < X.heap.size; omega)).trans cw
        have q5n : w5.cell? ⟨nb, 0, none⟩ = some (.string name) := (hb5.cell (p := ⟨nb, 0, none⟩) (by show nb < X.heap.size; omega)).trans cn
        have q5p : w5.cell? ⟨p, 4, none⟩ = some (.map (some g1.fm)) := (hb5.cell (p := ⟨p, 4, none⟩) (by show p < X.heap.size; omega)).trans cp
        clear hF5' hg5 hru hm6 hg6 hb5d hqc hq hsv hsl hb5 hlook
        have HFQ := Lib.hid hfq
        have hR2 := hR5
        have hF2 := hF5
        clear hR5 hF5 hfq
        have hwbY := (hF2.kept wb hwl1 hwo1 (fun e => e)).trans HWB.out
        have hmbY := (hF2.kept mb hml1 hmo1 (fun e => e)).trans HMB.out
        have cwY := cell_blk hwbY 0
        have cmY := cell_blk hmbY 0
        have hdbY := (hF2.kept db hdl1 hdb (fun e => e)).trans HB.out
        have hdbO : own5 db = none := (hF2.old _ hdl1).trans hdb
        have hwbs : wb < w6.heap.size := Nat.lt_of_lt_of_le hwl1 hF2.size
        have hmbs : mb < w6.heap.size := Nat.lt_of_lt_of_le hml1 hF2.size
        have hdbs : db < w6.heap.size := Nat.lt_of_lt_of_le hdl1 hF2.size
        have hRZ := alloc_rep hR2 (.cells #[.bool false, .pointer (some ⟨q, 0, none⟩), .int .i64 mode, .int .i64 0] 144)
        have his := issue_any own5 w6 _ p _ _ hRZ.1 w6.heap.size 138 (.file false s.fs.length mode 0) hRZ.2 (Nat.le_refl _) (by simp) (fun _ => rfl) rfl rfl (fun b i' m' a' e => by cases e; exact ⟨by show s.fs.length < (s.fs ++ [_]).length; simp, Nat.zero_le _⟩) (fun own' W e1 e2 => ⟨e1, _, e2.trans (heap_alloc_new _ _), fun _ => by rw [HFQ.out]⟩) hlv hhl (owns_none hR2.owns (Nat.le_refl _))
        have HIS := Lib.hid his
        have HF2 := Lib.hid hF2
        have HDY := Lib.hid hdbY
        have HDO := Lib.hid hdbO
        clear his hRZ hF2 hR2 hwbY hmbY hdbY hdbO
        go_wp2
        have HRU' := HRU.out
        go_region
        clear HRU'
        go_wp2_with (go_at_call 92; refine HIS.out.mono ?_; rintro e w4 ⟨own4, g4, rfl, hR4, hF4⟩; have hd4 := (hF4.kept db hdbs HDO.out (fun e => e)).trans HDY.out; have d41 := cell_blk hd4 1; have d4f := frozen_blk hd4 1; have HR4 := Lib.hid hR4; have HF4 := Lib.hid hF4; have HD4 := Lib.hid hd4; clear hR4 hF4 hd4)
        go_ret
        obtain ⟨z1, z2⟩ := set1_rep HR4.out db 1 ((HF4.out.old _ hdbs).trans HDO.out) (.int .i64 ((s.hs.length : Int) + 1))
        refine ⟨own4, g4, by rw [HA.out]; rfl, by rw [HA.out]; exact z1, ?_, ((HF2.out.weak _).trans (HF4.out.weak _)).trans z2⟩
        rw [HA.out]; exact blk_set HD4.out 1 _
  · have hA := actOpen_err (d := ⟨1, 0, name, noS, mode, 0⟩) (c := ⟨k, n, t⟩) hr
    have hrb : (refuses { s with ch := s.ch.tail } name mode != 0) = true := by simpa using hr
    have HA := Lib.hid hA
    have HRX := Lib.hid hRX
    have HFX := Lib.hid hFX
    have HBX := Lib.hid ((hXk db hdl1).trans hbox)
    clear hA hr hRX hFX hR hlook hbox
    generalize refuses { s with ch := s.ch.tail } name mode = er at *
    go_enter Tryz.func89, Tryz.ntmps89
    go_wp2_with fail
    rw [← HX.out]
    refine HREF.out.mono ?_
    rintro e w' ⟨rfl, rfl⟩
    go_wp2
    go_ret
    exact ⟨own1, g1, by rw [HA.out]; rfl, by rw [HA.out]; exact HRX.out, by rw [HA.out]; exact HBX.out, HFX.out.weak _⟩
end Go.Proofs.YtpkhghjmelgpeaaGreat.Wk
