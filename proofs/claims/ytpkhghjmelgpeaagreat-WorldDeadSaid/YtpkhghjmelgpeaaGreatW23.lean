/- New. -/
import Derived.Test.YtpkhghjmelgpeaaGreatW22
import Derived.Lib.ConvBytes
set_option linter.unusedVariables false
namespace Go.Proofs.YtpkhghjmelgpeaaGreat.Wk
open Go.ChangeShapes Go.WideShapes Go.ChangeAt Go.RowKit M

def newF (s : St) (x : ByteArray × ByteArray) : Option St :=
  if isName x.1 = false ∨ (find s.fs x.1).isSome = true ∨ 4194304 < x.2.size then none else some { s with fs := s.fs ++ [⟨x.1, x.2.data.toList, x.2.data.toList, []⟩] }
def newFs (s : St) : List (ByteArray × ByteArray) → Option St
  | [] => some s
  | x :: r => match newF s x with | none => none | some s' => newFs s' r
def mkNew (l : List Ch) (F : List (ByteArray × ByteArray)) : Option St := if 65536 < l.length ∨ 64 < F.length then none else newFs (start l) F
theorem newFs_snoc (F : List (ByteArray × ByteArray)) : ∀ (s : St) (x : ByteArray × ByteArray), newFs s (F ++ [x]) = match newFs s F with | none => none | some s' => newF s' x := by
  induction F with
  | nil => intro s x; simp only [List.nil_append, newFs]; cases newF s x <;> rfl
  | cons y r ih => intro s x; simp only [List.cons_append, newFs]; cases newF s y with | none => rfl | some s' => exact ih s' x
theorem newFs_none {F G : List (ByteArray × ByteArray)} : ∀ {s : St}, newFs s F = none → newFs s (F ++ G) = none := by
  induction F with
  | nil => intro s h; cases h
  | cons y r ih =>
    intro s h
    simp only [List.cons_append, newFs] at *
    cases hq : newF s y with
    | none => rfl
    | some s' => rw [hq] at h; exact ih h
theorem newF_some {s s' : St} {x : ByteArray × ByteArray} (h : newF s x = some s') : isName x.1 = true ∧ find s.fs x.1 = none ∧ x.2.size ≤ 4194304 ∧ s' = { s with fs := s.fs ++ [⟨x.1, x.2.data.toList, x.2.data.toList, []⟩] } := by
  unfold newF at h
  split at h
  · cases h
  · rename_i hc
    cases h
    refine ⟨by simpa using fun e => hc (.inl e), ?_, by omega, rfl⟩
    cases hq : find s.fs x.1 with
    | none => rfl
    | some i => exact absurd (.inr (.inl (by rw [hq]; rfl))) hc
theorem newFs_len (F : List (ByteArray × ByteArray)) : ∀ (s s' : St), newFs s F = some s' → s'.fs.length = s.fs.length + F.length := by
  induction F with
  | nil => intro s s' h; cases h; rfl
  | cons y r ih =>
    intro s s' h
    simp only [newFs] at h
    cases hq : newF s y with
    | none => rw [hq] at h; cases h
    | some s1 =>
      rw [hq] at h
      have := ih s1 s' h
      obtain ⟨_, _, _, rfl⟩ := newF_some hq
      simp at this ⊢; omega

def FlS (w : World) (v : Value) (F : List (ByteArray × ByteArray)) : Prop :=
  ∃ a c, v = .slice a F.length c ∧ ∀ k x, F[k]? = some x → ∃ b off, a = some ⟨b, off, none⟩ ∧ w.cell? ⟨b, off + k * 2, none⟩ = some (.string x.1) ∧ w.cell? ⟨b, off + k * 2 + 1, none⟩ = some (.string x.2)
def News (w : World) : Option St → Ending → World → Prop
  | none, e, w' => e = .returned (.tuple #[.pointer none, .int .i64 1]) ∧ Below w.heap.size w w'
  | some s, e, w' => ∃ p own' g, e = .returned (.tuple #[.pointer (some ⟨p, 0, none⟩), .int .i64 0]) ∧ Made w s p own' g w'

theorem named_le (fs : List Fs) : named fs ≤ fs.length := by unfold named; exact List.length_filter_le _ _

theorem below_bytes (w : World) (e : TypeId) (s : ByteArray) : Below w.heap.size w (Lib.bytesWorld w e s) := by
  refine ⟨?_, ?_, ?_, by rw [Lib.bytesWorld_size]; omega, fun k hk => Lib.bytesWorld_at_old w e s k hk⟩ <;>
    (unfold Lib.bytesWorld World.freeze; split <;> rfl)
theorem bytes_row (w : World) (s : ByteArray) (hs : s.size ≤ 4194304) : Row (Lib.bytesWorld w 5 s) 5 1 (.slice (some ⟨w.heap.size, 0, none⟩) s.size (grownCap w s.size 0 5)) s.size (bcells s.data.toList) := by
  have hge := grownCap_ge w s.size 0 5
  have hle := grownCap_le_maxLen w s.size 0 5 (by unfold maxLen; omega)
  have hlen : (bcells s.data.toList).length = s.size := by rw [bcells_len]; simp
  by_cases h0 : grownCap w s.size 0 5 = 0
  · have hz : s.size = 0 := by omega
    refine ⟨by rw [hlen]; omega, .inl ⟨hz, some ⟨w.heap.size, 0, none⟩, ?_⟩⟩
    rw [h0, hz]
  · have hsz : (Lib.bytesCells w 5 s).size = grownCap w s.size 0 5 := by
      unfold Lib.bytesCells
      have : s.data.size = s.size := rfl
      simp [this]; omega
    refine ⟨by rw [hlen]; omega, .inr ⟨_, _, _, rfl, by omega, ⟨_, Lib.bytesWorld_at_new w _ s, .inr (Nat.le_refl _)⟩, hge, hle, by rw [hsz]; omega, ?_⟩⟩
    rw [Nat.mul_one]
    unfold Lib.bytesCells
    rw [Array.toList_append, Array.toList_map, List.take_append_of_le_length (by simp)]
    rw [List.take_of_length_le (by simp)]; rfl

def NewRel (w : World) (p : Nat) (l : List Ch) (F : List (ByteArray × ByteArray)) (i : Value) (wr : World) : Prop :=
  ∃ (k : Nat) (s : St) (own : Own) (g : Gh), k ≤ F.length ∧ i = .int .i64 k ∧ newFs (start l) (F.take k) = some s ∧ Made w s p own g wr
theorem newFs_at {l : List Ch} {F : List (ByteArray × ByteArray)} {k : Nat} {s : St} (h : newFs (start l) (F.take k) = some s) {x : ByteArray × ByteArray} (hx : F[k]? = some x) : newFs (start l) (F.take (k + 1)) = newF s x := by
  have hlt := (List.getElem?_eq_some_iff.1 hx).1
  have hx2 := (List.getElem?_eq_some_iff.1 hx).2
  rw [List.take_succ_eq_append_getElem hlt, newFs_snoc, h, hx2]
theorem newFs_fails {l : List Ch} {F : List (ByteArray × ByteArray)} {k : Nat} {s : St} (h : newFs (start l) (F.take k) = some s) {x : ByteArray × ByteArray} (hx : F[k]? = some x) (hf : newF s x = none) : newFs (start l) F = none := by
  have h1 := newFs_at h hx
  rw [hf] at h1
  rw [← List.take_append_drop (k + 1) F]
  exact newFs_none h1

set_option maxHeartbeats 4000000 in
set_option maxRecDepth 100000 in
theorem new_any (v fv : Value) (l : List Ch) (F : List (ByteArray × ByteArray)) (w : World) (h : Rd w 3 v l.length (l.flatMap chcells)) (hl : l.length ≤ 9223372036854775807) (hF : FlS w fv F) (hFl : F.length ≤ 9223372036854775807) (hFs : ∀ x ∈ F, x.1.size ≤ maxLen) :
    Calls Tryz.prog 9 #[v, fv] w (News w (mkNew l F)) := by
  obtain ⟨fa, fc, rfl, hcells⟩ := hF
  by_cases hbig : 65536 < l.length ∨ 64 < F.length
  · have hM : Hid (mkNew l F = none) := Lib.hid (by unfold mkNew; rw [if_pos hbig])
    obtain ⟨a, c, rfl, _⟩ := h
    rcases hbig with hb | hb
    all_goals
      go_enter Tryz.func9, Tryz.ntmps9
      go_wp2
      all_goals first | (exfalso; omega) | skip
      all_goals
        go_ret2
        rw [hM.out]
        exact ⟨rfl, Below.refl _ _⟩
  · have hM : Hid (mkNew l F = newFs (start l) F) := Lib.hid (by unfold mkNew; rw [if_neg hbig])
    have hb1 : ¬ (65536 : Int) < l.length := by omega
    have hb2 : ¬ (64 : Int) < F.length := by omega
    have HBG := Lib.hid (begin_any v l w h (by omega))
    obtain ⟨a, c, rfl, _⟩ := h
    have HC := Lib.hid hcells
    have HFS := Lib.hid hFs
    clear hcells hbig hFs
    go_enter Tryz.func9, Tryz.ntmps9
    go_wp2_with fail
    refine HBG.out.mono ?_
    rintro e w0 ⟨p, own0, g0, rfl, hM0⟩
    have HM0 := Lib.hid hM0
    clear hM0 HBG
    go_wp2
    go_loopw [21] (fun i wr => NewRel w p l F i wr) (fun i _ => F.length - (intOf i).toNat)
    case atStart => exact ⟨0, start l, own0, g0, Nat.zero_le _, rfl, rfl, HM0.out⟩
    case round =>
      obtain ⟨k, s, own, g, hk, rfl, hs, hMk⟩ := hrel
      by_cases hlt : k < F.length
      · obtain ⟨x, hx⟩ : ∃ x, F[k]? = some x := ⟨F[k], List.getElem?_eq_getElem hlt⟩
        obtain ⟨b, off, rfl, e0, e1⟩ := HC.out k x hx
        obtain ⟨hRk, hnk, hBk⟩ := hMk
        have hbl : b < w.heap.size := World.block_lt_of_cell? w ⟨b, off + k * 2, none⟩ e0
        have n0 := (hBk.cell (p := ⟨b, off + k * 2, none⟩) hbl).trans e0
        have n1 := (hBk.cell (p := ⟨b, off + k * 2 + 1, none⟩) hbl).trans e1
        have hxs := HFS.out x (List.mem_of_getElem? hx)
        have hlen := newFs_len _ _ _ hs
        have hfl : s.fs.length = k := by rw [hlen]; simp [start]; omega
        obtain ⟨x1, x2⟩ := x
        have c4 : wr.cell? ⟨p, 4, none⟩ = some (.map (some g.fm)) := cell_blk hRk.wcell 4
        have hpl := blk_lt hRk.wcell
        have HIN : ∀ W : World, Calls Tryz.prog 35 #[.string x1] W fun e w' => e = .returned (.bool (isName x1)) ∧ w' = W := fun W => (isName_any x1 W hxs).mono fun _ _ h => ⟨h.1, h.2.symm⟩
        have HIN := Lib.hid HIN
        obtain ⟨X, hX⟩ : ∃ X, X = wr.alloc (.cells #[.string x1, .string x2] 74) := ⟨_, rfl⟩
        have hBX : Below wr.heap.size wr X := by rw [hX]; exact (Below.refl _ _).alloc (Nat.le_refl _) _
        have hRX := hRk.below hBX (Nat.le_refl _)
        have hXb : X.heap[wr.heap.size]? = some (.cells #[.string x1, .string x2] 74 (0, 0)) := by rw [hX]; exact heap_alloc_new wr _
        have z0 := cell_blk hXb 0
        have z1 := cell_blk hXb 1
        have z4 : X.cell? ⟨p, 4, none⟩ = some (.map (some g.fm)) := cell_blk hRX.wcell 4
        have hlook : ∀ nq, (Instr.lookup 87 (.map (some g.fm)) (.string x1) false).run Tryz.prog (X.drewN nq) = .ok (fval g (find s.fs x1)) (X.drewN nq) := fun nq => look_f (rep_drew hRX nq) x1 hxs
        have HLK := Lib.hid hlook
        have HX := Lib.hid hX
        have HRX := Lib.hid hRX
        have HRK := Lib.hid hRk
        have HBX := Lib.hid hBX
        have HBK := Lib.hid hBk
        have HNK := Lib.hid hnk
        have HS := Lib.hid hs
        have HXX := Lib.hid hx
        have HXB := Lib.hid hXb
        clear hlook hX hRX hRk hBX hBk hnk hs hx hXb hlen HM0 e0 e1
        have HBF : Below w.heap.size w X := HBK.out.trans (HBX.out.mono HBK.out.size)
        have HBF := Lib.hid HBF
        cases hn : isName x1
        · have HFN : Hid (mkNew l F = none) := Lib.hid (by rw [hM.out]; exact newFs_fails HS.out HXX.out (by unfold newF; rw [if_pos (.inl hn)]))
          rw [hn] at HIN
          clear hn
          go_wp2
          rw [← HX.out]
          go_quiet ((go_at_call 35; exact Calls.quiet_of_same (HIN.out _)))
          go_wp2
          go_ret2
          rw [HFN.out]
          exact ⟨rfl, HBF.out.trans ⟨rfl, rfl, rfl, Nat.le_refl _, fun _ _ => rfl⟩⟩
        · rw [hn] at HIN
          have HNM := Lib.hid hn
          clear hn
          cases hf : find s.fs x1 with
          | some i =>
            have HFN : Hid (mkNew l F = none) := Lib.hid (by rw [hM.out]; exact newFs_fails HS.out HXX.out (by unfold newF; rw [if_pos (.inr (.inl (by rw [hf]; rfl)))]))
            rw [hf] at HLK
            simp only [fval] at HLK
            clear hf
            go_wp2
            rw [← HX.out]
            have hlk := HLK.out
            go_quiet ((go_at_call 35; exact Calls.quiet_of_same (HIN.out _)))
            clear hlk
            go_wp2
            go_ret2
            rw [HFN.out]
            exact ⟨rfl, HBF.out.trans ⟨rfl, rfl, rfl, Nat.le_refl _, fun _ _ => rfl⟩⟩
          | none =>
            have HFI := Lib.hid hf
            rw [hf] at HLK
            simp only [fval] at HLK
            clear hf
            by_cases hbig : 4194304 < x2.size
            · have HFN : Hid (mkNew l F = none) := Lib.hid (by rw [hM.out]; exact newFs_fails HS.out HXX.out (by unfold newF; rw [if_pos (.inr (.inr hbig))]))
              have hd : decide ((4194304 : Int) < x2.size) = true := by simp; omega
              go_wp2
              rw [← HX.out]
              have hlk := HLK.out
              go_quiet ((go_at_call 35; exact Calls.quiet_of_same (HIN.out _)))
              clear hlk
              go_wp2
              go_ret2
              rw [HFN.out]
              exact ⟨rfl, HBF.out.trans ⟨rfl, rfl, rfl, Nat.le_refl _, fun _ _ => rfl⟩⟩
            · have hx2 : x2.size ≤ 4194304 := by omega
              have hd : decide ((4194304 : Int) < x2.size) = false := by simp; omega
              clear hbig
              go_wp2
              rw [← HX.out]
              have hlk := HLK.out
              go_quiet ((go_at_call 35; exact Calls.quiet_of_same (HIN.out _)))
              clear hlk
              obtain ⟨Y, hY⟩ : ∃ Y, Y = X.drewN nq := ⟨_, rfl⟩
              have hYh : Y.heap = X.heap := by rw [hY]; rfl
              have hRY : Rep own Y p s g := by rw [hY]; exact rep_drew HRX.out nq
              have hBY : Below X.heap.size X Y := by rw [hY]; exact ⟨rfl, rfl, rfl, Nat.le_refl _, fun _ _ => rfl⟩
              rw [← hY]
              have y0 : Y.cell? ⟨wr.heap.size, 0, none⟩ = some (.string x1) := by rw [World.cell?_of_block (w := X) (by rw [hYh])]; exact z0
              have y1 : Y.cell? ⟨wr.heap.size, 1, none⟩ = some (.string x2) := by rw [World.cell?_of_block (w := X) (by rw [hYh])]; exact z1
              have y4 : Y.cell? ⟨p, 4, none⟩ = some (.map (some g.fm)) := cell_blk hRY.wcell 4
              have hYs : Y.heap.size = wr.heap.size + 1 := by rw [hYh, HX.out]; simp
              have HRY := Lib.hid hRY
              have HBY := Lib.hid (HBF.out.trans (hBY.mono (by have := HBF.out.size; omega)))
              clear hY hYh hRY hBY z0 z1 z4 c4
              have hYd : Rep own Y.drew p s g := HRY.out.kept HRY.out.owns (fun _ _ e => e) (fun _ _ _ _ => rfl)
              have hconv := Lib.run_convert_string_bytes (P := Tryz.prog) Y.drew 9 92 5 x2 Tryz.underlying9 Tryz.underlying92 Tryz.underlying5
              have hbr := bytes_row Y.drew x2 hx2
              have hbb := below_bytes Y.drew 5 x2
              obtain ⟨cp, hcp⟩ : ∃ cp, cp = grownCap Y.drew x2.size 0 5 := ⟨_, rfl⟩
              obtain ⟨Z, hZ⟩ : ∃ Z, Z = Lib.bytesWorld Y.drew 5 x2 := ⟨_, rfl⟩
              rw [← hcp, ← hZ] at hconv hbr
              rw [← hZ] at hbb
              have hZs : Z.heap.size = wr.heap.size + 2 := by rw [hZ, Lib.bytesWorld_size]; show Y.heap.size + 1 = _; omega
              have q0 : Z.cell? ⟨wr.heap.size, 0, none⟩ = some (.string x1) := (hbb.cell (p := ⟨wr.heap.size, 0, none⟩) (by show wr.heap.size < Y.heap.size; omega)).trans y0
              have q4 : Z.cell? ⟨p, 4, none⟩ = some (.map (some g.fm)) := (hbb.cell (p := ⟨p, 4, none⟩) (by show p < Y.heap.size; omega)).trans y4
              have hsz : x2.size = x2.data.toList.length := by simp
              have hset := settled_any (.slice (some ⟨Y.drew.heap.size, 0, none⟩) x2.size cp) x2.data.toList Z (by rw [← hsz]; exact hbr) (by rw [← hsz]; omega)
              have HSET := Lib.hid hset
              have HBR := Lib.hid hbr
              have HBB := Lib.hid hbb
              have HYD := Lib.hid hYd
              have HSZ := Lib.hid hsz
              have HZS := Lib.hid hZs
              have HYS := Lib.hid hYs
              clear hset hbr hbb hYd hcp hZ hZs hsz hYs
              have hfm := HYD.out.owns _ (by rw [HYD.out.fown]; simp)
              have HFM := Lib.hid (show g.fm < Y.heap.size from hfm)
              clear hfm
              go_wp2
              go_region_with ((go_at_call 36; refine HSET.out.mono ?_; rintro e w5 ⟨q, sv, rfl, hqc, hq, hsv, hsl, hb5⟩; have hbz := HBB.out.trans (hb5.mono HBB.out.size); obtain ⟨w6, hru, hm6, hg6⟩ := (ownsMap_tight (ownsMap_kept (w' := w5) HYD.out.fmap (hbz.block _ HFM.out))).update lawS Tryz.underlying87 (by rw [HYD.out.fis.size]; have := named_le s.fs; unfold maxLen; omega) (key := .string x1) (val := .pointer (some ⟨q, 0, none⟩)) (Go.WideMaps.keyOf_string_mk Tryz.underlying9 hxs) (d := pd q) (ps := []) rfl; have k0 := (hb5.cell (p := ⟨wr.heap.size, 0, none⟩) (by have := HZS.out; show wr.heap.size < Z.heap.size; omega)).trans q0; have k4 := (hb5.cell (p := ⟨p, 4, none⟩) (by have := HZS.out; show p < Z.heap.size; omega)).trans q4; have HRU := hru; have H1 := Lib.hid hqc; have H2 := Lib.hid hsv; have H3 := Lib.hid hsl; have H4 := Lib.hid hb5; have H5 := Lib.hid hbz; have H6 := Lib.hid hm6; have H7 := Lib.hid hg6; have H8 := Lib.hid hq; clear hru hqc hsv hsl hb5 hbz hm6 hg6 hq))
              all_goals (clear HRU; try go_wp2)
              all_goals
                have hnm : named s.fs < 64 := by have := named_le s.fs; omega
                have hYz : Y.drew.heap.size = Y.heap.size := rfl
                have hbvw : Row w5 5 1 (.slice (some ⟨Y.drew.heap.size, 0, none⟩) x2.size cp) x2.data.toList.length (bcells x2.data.toList) := by
                  rw [← HSZ.out]; exact HBR.out.kept fun k hk => H4.out.block k (HBR.out.lt k hk)
                have hbvl : ∀ k, blk (.slice (some ⟨Y.drew.heap.size, 0, none⟩) x2.size cp) = some k → k = Y.drew.heap.size := fun k e => by
                  cases cp with
                  | zero => simp [blk] at e
                  | succ c => simp [blk] at e; exact e.symm
                have hz1 := HZS.out
                have hz2 := HYS.out
                obtain ⟨own', hR', hF'⟩ := newfile_fin HYD.out (bv := .slice (some ⟨Y.drew.heap.size, 0, none⟩) x2.size cp) (l := x2.data.toList) HNM.out hxs HFI.out (by rw [← HSZ.out]; exact hx2) hnm H5.out (by have := H8.out; omega) H1.out hbvw H2.out (fun k e => by have := hbvl k e; have := H8.out; omega) (fun k e => by have := H3.out k e; omega) (fun k e e2 => by have := hbvl k e; have := (H3.out k e2).1; omega) H6.out H7.out
                have hs' : newFs (start l) (F.take (k + 1)) = some { s with fs := s.fs ++ [⟨x1, x2.data.toList, x2.data.toList, []⟩] } := by
                  rw [newFs_at HS.out HXX.out]; unfold newF; rw [if_neg]
                  rintro (e | e | e)
                  · rw [HNM.out] at e; cases e
                  · rw [HFI.out] at e; cases e
                  · simp only at e; omega
                have hw' : w.heap.size ≤ Y.heap.size := HBY.out.size
                go_roundw
                case rel =>
                  refine ⟨k + 1, _, own', _, by omega, by go_num, hs', hR', fun q hq => ?_, HBY.out.trans ⟨hF'.os, hF'.tape, hF'.output, hF'.size, fun q hq => hF'.kept q (by show q < Y.heap.size; omega) (HNK.out q hq) (fun e => e)⟩⟩
                  exact (hF'.old q (by show q < Y.heap.size; omega)).trans (HNK.out q hq)
                case measure => simp [intOf]; omega
      · obtain rfl : k = F.length := by omega
        have HFN : Hid (mkNew l F = some s) := Lib.hid (by rw [hM.out, ← hs, List.take_length])
        have HMK := Lib.hid hMk
        clear hs hMk
        go_wp2
        go_ret2
        rw [HFN.out]
        exact ⟨p, own, g, rfl, HMK.out⟩
end Go.Proofs.YtpkhghjmelgpeaaGreat.Wk
