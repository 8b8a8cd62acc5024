/- Words, appended. -/
import Derived.Test.YtklbgccfcfldaaaF3
import Derived.Test.YtklbgccfcfldaaaB9
set_option linter.unusedVariables false
namespace Go.Proofs.Ytklbgccfcfldaaa.Wk
open Go.ChangeShapes Go.WideShapes Go.ChangeAt Go.RowKit Go.Shelf M

/-- A row that is not the heap's may grow. -/
theorem Rep.gr {own : Own} {w w' : World} {p : Nat} {s : Hp} {g : Gh} {v v' : Value} (h : Rep own w p s g) (hg : Gr w w' v v') (hv : ∀ k, blk v = some k → own k = none) : Rep own w' p s g :=
  h.kept (fun k hk => Nat.lt_of_lt_of_le (h.owns k hk) hg.g.size) (More.refl _) fun k l e _ => hg.g.block k (h.owns k (by rw [e]; simp)) (fun q => by have := hv k q.symm; rw [e] at this; cases this)
theorem Gr.refl (w : World) (v : Value) : Gr w w v v := ⟨⟨rfl, rfl, rfl, Nat.le_refl _, fun _ _ _ => rfl⟩, .inl rfl⟩
theorem append_w1 (W : World) (v : Value) (l : List Int) (x : Int) (h : Wr W v l) (hl : l.length + 1 ≤ 1099511627776) :
    ∃ v' w2, (Builtin.append_ #[42, 42] 42 #[v, .slice (some ⟨W.heap.size, 0, none⟩) 1 1]).run Try.prog (W.alloc (.cells #[.int .u64 x] 32)) = .ok v' w2 ∧ Wr w2 v' (l ++ [x]) ∧ Gr W w2 v v' := append_ws W v l [x] h (by simp) (by simpa using hl)

set_option maxRecDepth 100000 in
set_option maxHeartbeats 4000000 in
theorem appendWords_any (own : Own) (w : World) (p : Nat) (s : Hp) (g : Gh) (h : Rep own w p s g) (hw : Wf s) (v : Value) (l : List Int) (hv : Wr w v l) (hvo : ∀ k, blk v = some k → own k = none) (hl : l.length ≤ 1099500000000)
    (o : Int) (h0 : 0 ≤ o) (h2 : o ≤ 18446744073709551615) (ho : isOb s o = true) (h4 : fmt s (atO o) = 4) :
    Calls Try.prog 63 #[v, .pointer (some ⟨p, 0, none⟩), .int .u64 o] w fun e w' => ∃ v', e = .returned v' ∧ Wr w' v' (l ++ (List.range (sl s (atO o))).map fun i => s.mem (atO o + 2 + i)) ∧ Gr w w' v v' := by
  have HHd := head_y own w p s g h hw o h0 h2 ho
  dsimp only [hdCells] at HHd
  have hN : sl s (atO o) ≤ 4194304 := by
    have := (hw.st _ (isOb_at hw ho).2).2.1
    have := hw.n
    omega
  obtain ⟨f, hf⟩ : ∃ f : Nat → Int, f = fun i => s.mem (atO o + 2 + i) := ⟨_, rfl⟩
  rw [← hf]
  generalize hk0 : uC (s.mem (atO o)) = k0 at *
  generalize hk1 : uF (s.mem (atO o)) = k1 at *
  generalize hk2 : uS (s.mem (atO o)) = k2 at *
  generalize hk3 : uH (s.mem (atO o)) = k3 at *
  generalize hk4 : uA (s.mem (atO o)) = k4 at *
  generalize hk5 : uM (s.mem (atO o)) = k5 at *
  generalize hk6 : uN (s.mem (atO o)) = k6 at *
  obtain ⟨N, hNN⟩ : ∃ N, sl s (atO o) = N := ⟨_, rfl⟩
  have hW : ∀ X, Rep own X p s g → ∀ i : Nat, i < N → Calls Try.prog 80 #[.pointer (some ⟨p, 0, none⟩), .int .u64 o, .int .i64 (i : Int)] X fun e w' => e = .returned (.tuple #[.int .u64 (f i), .int .i64 0]) ∧ Below X.heap.size X w' := fun X hX i hi => by
    rw [hf]
    exact word_y own X p s g hX hw o h0 h2 ho h4 i (by rw [hNN]; exact hi)
  rw [hNN] at HHd hN ⊢
  have HH := Lib.hid h
  have HV := Lib.hid hv
  have HW := Lib.hid hW
  obtain ⟨va, vc, hve⟩ := hv.form
  have HVE := Lib.hid hve
  have HVO := Lib.hid hvo
  clear h hv hW hvo hf hk0 hk1 hk2 hk3 hk4 hk5 hk6 hNN hw ho h4
  have hround : ∀ wr v' i, Wr wr v' (l ++ (List.range i).map f) → Gr w wr v v' → i < N → Rep own wr p s g ∧ ∀ w2, Below wr.heap.size wr w2 → ∃ v2 w3, (Builtin.append_ #[42, 42] 42 #[v', .slice (some ⟨w2.heap.size, 0, none⟩) 1 1]).run Try.prog (w2.alloc (.cells #[.int .u64 (f i)] 32)) = .ok v2 w3 ∧ Wr w3 v2 (l ++ (List.range (i + 1)).map f) ∧ Gr w w3 v v2 := fun wr v' i hr hg hi => by
    refine ⟨HH.out.gr hg HVO.out, fun w2 hb => ?_⟩
    obtain ⟨v2, w3, a1, a2, a3⟩ := append_w1 w2 v' _ (f i) (hr.below hb) (by simp; omega)
    refine ⟨v2, w3, a1, ?_, (hg.trans (Gr.of_below v' hb)).trans a3⟩
    rw [List.range_succ, List.map_append, ← List.append_assoc]; exact a2
  have HR := Lib.hid hround
  clear hround
  subst hve
  go_enter Try.func63, Try.ntmps63
  go_wp2_with (go_at_call 34; refine HHd.mono ?_; rintro e w1 ⟨rfl, hb1⟩; have HB1 := Lib.hid hb1; clear HHd)
  have hb0 := HB1.out
  have hsz := hb0.size
  have hg0 : Gr w (w1.alloc (.cells #[.int .i64 k0, .int .u8 k1, .int .i64 k2, .int .i64 k3, .int .i64 k4, .int .i64 (N : Int), .bool k5, .bool k6] 78)) (.slice va l.length vc) (.slice va l.length vc) := Gr.of_below _ (hb0.alloc hb0.size _)
  have hw0 : Wr (w1.alloc (.cells #[.int .i64 k0, .int .u8 k1, .int .i64 k2, .int .i64 k3, .int .i64 k4, .int .i64 (N : Int), .bool k5, .bool k6] 78)) (.slice va l.length vc) l := HV.out.below (hb0.alloc hb0.size _)
  go_loopw [0, 20] (fun lv iv wr => ∃ (i : Nat) (v' : Value), i ≤ N ∧ iv = .int .i64 i ∧ lv = v' ∧ Wr wr v' (l ++ (List.range i).map f) ∧ Gr w wr (.slice va l.length vc) v') (fun _ iv _ => N - (intOf iv).toNat)
  case atStart => exact ⟨0, _, Nat.zero_le _, rfl, rfl, by simpa using hw0, hg0⟩
  case round =>
    obtain ⟨i, v', hi, rfl, hlv, hr, hg⟩ := hrel
    subst hlv
    by_cases hlt : i < N
    · have hlt2 : (i : Int) < N := by omega
      obtain ⟨hRi, hAi⟩ := HR.out wr _ i hr hg hlt
      have HWi := HW.out wr hRi i hlt
      obtain ⟨a', c', hve2⟩ := hr.form
      obtain ⟨nn, hnn⟩ : ∃ nn, (l ++ (List.range i).map f).length = nn := ⟨_, rfl⟩
      rw [hnn] at hve2
      have HNN := Lib.hid hnn
      clear hnn
      have HA := Lib.hid hAi
      clear hr hg hAi hRi
      subst hve2
      go_wp2_with (first
        | (go_at_call 80; refine HWi.mono ?_; rintro e w2 ⟨rfl, hb2⟩; obtain ⟨v2, w3, hrun, hx⟩ := HA.out w2 hb2; have HX := Lib.hid hx; clear hx)
        | (at_builtin; refine Lib.wpList_append_run _ rfl _ _ _ _ rfl _ _ rfl rfl _ _ hrun ?_))
      go_roundw
      case rel => exact ⟨i + 1, _, by omega, by simp, rfl, HX.out⟩
      case measure => simp only [intOf]; omega
    · have hie : i = N := by omega
      subst hie
      go_wp2
      go_ret
      exact ⟨_, rfl, hr, hg⟩
end Go.Proofs.Ytklbgccfcfldaaa.Wk
