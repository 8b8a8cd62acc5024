/- The numbers of what was visited: a map from oops. -/
import Derived.Test.YtklbgccfcfldaaaD2
set_option linter.unusedVariables false
namespace Go.Proofs.Ytklbgccfcfldaaa.Wk
open Go.ChangeShapes Go.WideShapes Go.ChangeAt Go.RowKit M

structure NuMap (D : DataW Unit) (l : List Int) : Prop where
  at_ : ∀ (o : Int) (z : DataW Unit), (okey o).wf = true → D.atKey (okey o) z = (match l.findIdx? (· == o) with | none => z | some i => .lit (.int .u64 ((i : Int) + 1))) ∧ Maps.has D (okey o) = l.contains o
  size : Maps.size D = l.length
/-- The map in block m numbers l. -/
structure Nu (w : World) (m k : Nat) (D : DataW Unit) (l : List Int) : Prop where
  map : w.ownsMap Try.prog 33 Ro m k D
  nu : NuMap D l
theorem lawO : Maps.Keyed Try.prog 33 := Maps.int_keyed Try.underlying33
theorem zeroU (w : World) : (zeroValue 32).run Try.prog w = .ok (.int .u64 0) w := by kernel_rfl
/-- How many there are bounds the map, too. -/
theorem ownsMap_tight {H : Type} {P : Program} {k : TypeId} {R : Value → Option (DataW H × List MemPlace)} {w : World} {b n : Nat} {D : DataW H} (h : w.ownsMap P k R b n D) : w.ownsMap P k R b (Maps.size D) D := by
  obtain ⟨es, clock, hb, F, hs, hD⟩ := h
  refine ⟨es, clock, hb, F, ?_, hD⟩
  rw [hD, Maps.size_eq, length_read]
  exact Nat.le_refl _
def nuV (l : List Int) (o : Int) : Int := match l.findIdx? (· == o) with | none => 0 | some i => (i : Int) + 1
theorem okey_wf {o : Int} (h : 0 ≤ o ∧ o ≤ 18446744073709551615) : (okey o).wf = true := by
  show (decide (IntKind.u64.min ≤ o) && decide (o ≤ IntKind.u64.max)) = true
  rw [show IntKind.u64.min = 0 from by decide, show IntKind.u64.max = 18446744073709551615 from by decide]
  simp; omega
theorem Ro_lit {v : Value} {c : Int} {ps : List MemPlace} (h : Ro v = some (.lit (.int .u64 c), ps)) : v = .int .u64 c := by
  unfold Ro at h
  split at h
  · simp at h; rw [h.1]
  · cases h
section
variable {w w' : World} {m k : Nat} {D : DataW Unit} {l : List Int}
theorem Nu.kept (h : Nu w m k D l) (hb : w'.heap[m]? = w.heap[m]?) : Nu w' m k D l := ⟨ownsMap_kept h.map hb, h.nu⟩
theorem Nu.lt (h : Nu w m k D l) : m < w.heap.size := by
  obtain ⟨es, clock, hb, _⟩ := h.map
  exact blk_lt hb
theorem Nu.look (h : Nu w m k D l) (o : Int) (ho : 0 ≤ o ∧ o ≤ 18446744073709551615) :
    (Instr.lookup 92 (.map (some m)) (.int .u64 o) true).run Try.prog w = .ok (.tuple #[.int .u64 (nuV l o), .bool (l.contains o)]) w := by
  obtain ⟨v, ps, hr, hv⟩ := h.map.look_ok lawO Try.underlying92 (zeroU w) (zd := .lit (.int .u64 0)) (zp := []) rfl (key := .int .u64 o) (Maps.keyOf_int_mk Try.underlying33 (okey_wf ho))
  rw [hr]
  have ha := h.nu.at_ o (.lit (.int .u64 0)) (okey_wf ho)
  rw [show (Lit.int .u64 o) = okey o from rfl, ha.1] at hv
  rw [show (Lit.int .u64 o) = okey o from rfl, ha.2]
  unfold nuV
  cases hf : l.findIdx? (· == o) with
  | none => rw [hf] at hv; rw [Ro_lit hv]
  | some i => rw [hf] at hv; rw [Ro_lit hv]
theorem okey_ne {a b : Int} (h : a ≠ b) : okey a ≠ okey b := fun e => h (by unfold okey at e; simpa using e)
theorem Nu.add (h : Nu w m k D l) (o : Int) (ho : 0 ≤ o ∧ o ≤ 18446744073709551615) (hl : l.length < 1099511627776) (hn : l.contains o = false) :
    ∃ w2 k2 D2, (Instr.mapUpdate 92 (.map (some m)) (.int .u64 o) (.int .u64 ((l.length : Int) + 1))).run Try.prog w = .ok () w2 ∧ Nu w2 m k2 D2 (l ++ [o]) ∧ w.grownBy w2 (some m) := by
  have hkb : WideAt.IsKeyLit (okey o) := lawO.key (Maps.keyOf_int_mk Try.underlying33 (okey_wf ho))
  obtain ⟨w2, h1, h2, h3⟩ := (ownsMap_tight h.map).update lawO Try.underlying92 (by rw [h.nu.size]; unfold maxLen; omega) (key := .int .u64 o) (val := .int .u64 ((l.length : Int) + 1)) (Maps.keyOf_int_mk Try.underlying33 (okey_wf ho)) (d := .lit (.int .u64 ((l.length : Int) + 1))) (ps := []) rfl
  refine ⟨w2, _, _, h1, ⟨h2, ?_, ?_⟩, h3⟩
  · intro x z hx
    have hno : l.findIdx? (· == o) = none := by
      rw [List.findIdx?_eq_none_iff]; intro y hy
      cases e : (y == o) with
      | false => rfl
      | true =>
        have e2 : y = o := by simpa using e
        subst e2
        simp [hy] at hn
    by_cases e : x = o
    · subst e
      refine ⟨?_, ?_⟩
      · refine (Maps.atKey_put_same h.map.isMap hkb _ _).trans ?_
        rw [List.findIdx?_append, hno]; simp
      · refine (Maps.has_put_same h.map.isMap hkb _).trans ?_
        simp
    · have k1 := okey_ne e
      refine ⟨?_, ?_⟩
      · refine (Maps.atKey_put_other k1 _ _).trans ?_
        refine (h.nu.at_ x z hx).1.trans ?_
        rw [List.findIdx?_append]
        cases hf : l.findIdx? (· == x) with
        | some i => simp
        | none =>
          have : (o == x) = false := by simp; exact fun q => e q.symm
          simp [this]
      · refine (Maps.has_put_other k1 _).trans ?_
        refine (h.nu.at_ x z hx).2.trans ?_
        simp [e]
  · refine (Maps.size_put (h.map.tidy lawO) _).trans ?_
    rw [show (Lit.int .u64 o) = okey o from rfl, (h.nu.at_ o .nil (okey_wf ho)).2, hn, h.nu.size]; simp
theorem Nu.size_run (h : Nu w m k D l) (ty : TypeId) : (Builtin.len_ #[92] ty #[.map (some m)]).run Try.prog w = .ok (.int .i64 l.length) w := by
  have := h.map.len Try.underlying92 ty
  rw [h.nu.size] at this; exact this
end
theorem Nu.nil {w : World} {b : Nat} (h : w.heap[b]? = some (.map #[] 0)) : Nu w b 0 (.map []) [] := ⟨owns0 h, ⟨fun o z _ => ⟨rfl, rfl⟩, rfl⟩⟩
def numV (p m : Nat) : Value := .agg #[.pointer (some ⟨p, 0, none⟩), .map (some m)]
theorem box2 {w : World} {b : Nat} {e : TypeId} {a0 a1 : Value} (h : w.heap[b]? = some (.cells #[a0, a1] e (0, 0))) : w.cell? ⟨b, 0, none⟩ = some a0 ∧ w.cell? ⟨b, 1, none⟩ = some a1 := ⟨cell_blk h 0, cell_blk h 1⟩

set_option maxHeartbeats 2000000 in
set_option maxRecDepth 100000 in
theorem has_any (w : World) (p m k : Nat) (D : DataW Unit) (l : List Int) (h : Nu w m k D l) (o : Int) (ho : 0 ≤ o ∧ o ≤ 18446744073709551615) :
    Calls Try.prog 87 #[numV p m, .int .u64 o] w fun e w' => e = .returned (.bool (l.contains o)) ∧ Below w.heap.size w w' := by
  obtain ⟨X, hX⟩ : ∃ X, X = w.alloc (.cells #[.pointer (some ⟨p, 0, none⟩), .map (some m)] 94) := ⟨_, rfl⟩
  have hNX : Nu X m k D l := h.kept (by rw [hX]; exact Below.heap_alloc _ _ _ h.lt)
  have hl := hNX.look o ho
  have hB : Below w.heap.size w X := by rw [hX]; exact (Below.refl _ _).alloc (Nat.le_refl _) _
  rw [hX] at hl
  generalize l.contains o = c at *
  generalize nuV l o = v at *
  simp only [numV]
  clear h hNX
  go_enter Try.func87, Try.ntmps87
  go_wp2
  go_ret
  rw [hX] at hB
  exact ⟨rfl, hB⟩

/-- A number more: whether it is new. -/
def isNew (s : Hp) (l : List Int) (o : Int) : Bool := isOb s o && !l.contains o
theorem vis_new (s : Hp) (l : List Int) (o : Int) : vis s l o = if isNew s l o then l ++ [o] else l := rfl

set_option maxHeartbeats 4000000 in
set_option maxRecDepth 100000 in
theorem add_any (own : Own) (w : World) (p : Nat) (s : Hp) (g : Gh) (h : Rep own w p s g) (m k : Nat) (D : DataW Unit) (l : List Int) (hm : Nu w m k D l) (hl : l.length < 1099511627776) (o : Int) (ho : 0 ≤ o ∧ o ≤ 18446744073709551615) :
    Calls Try.prog 76 #[numV p m, .int .u64 o] w fun e w' => e = .returned (.bool (isNew s l o)) ∧ ∃ k2 D2, Nu w' m k2 D2 (vis s l o) ∧ w.grownBy w' (some m) := by
  obtain ⟨X, hX⟩ : ∃ X, X = w.alloc (.cells #[.pointer (some ⟨p, 0, none⟩), .map (some m)] 94) := ⟨_, rfl⟩
  have hNX : Nu X m k D l := hm.kept (by rw [hX]; exact Below.heap_alloc _ _ _ hm.lt)
  have hB : Below w.heap.size w X := by rw [hX]; exact (Below.refl _ _).alloc (Nat.le_refl _) _
  have hXb := box2 (show X.heap[w.heap.size]? = some (.cells #[.pointer (some ⟨p, 0, none⟩), .map (some m)] 94 (0, 0)) by rw [hX]; exact heap_alloc_new w _)
  have hXs : X.heap.size = w.heap.size + 1 := by rw [hX]; simp
  have HH := has_any X p m k D l hNX o ho
  have hK : ∀ w1, Below X.heap.size X w1 → (w1.cell? ⟨w.heap.size, 0, none⟩ = some (.pointer (some ⟨p, 0, none⟩)) ∧ w1.cell? ⟨w.heap.size, 1, none⟩ = some (.map (some m))) ∧
      Calls Try.prog 53 #[.pointer (some ⟨p, 0, none⟩), .int .u64 o] w1 (fun e w' => e = .returned (.bool (isOb s o)) ∧ w1 = w') ∧
      (Builtin.len_ #[92] 3 #[.map (some m)]).run Try.prog w1 = .ok (.int .i64 l.length) w1 ∧ w1.heap.size ≥ X.heap.size ∧ w.grownBy w1 (some m) ∧ Nu w1 m k D l ∧
      (l.contains o = false → ∃ w2 k2 D2, (Instr.mapUpdate 92 (.map (some m)) (.int .u64 o) (.int .u64 ((l.length : Int) + 1))).run Try.prog w1 = .ok () w2 ∧ Nu w2 m k2 D2 (l ++ [o]) ∧ w.grownBy w2 (some m)) := fun w1 hb => by
    have hN1 : Nu w1 m k D l := hNX.kept (hb.block m hNX.lt)
    have hR1 := h.below (below_new hX hb) (Nat.le_refl _)
    have hwb := below_new hX hb
    have hg1 : w.grownBy w1 (some m) := ⟨hwb.os, hwb.tape, hwb.output, hwb.size, fun i hi _ => hwb.block i hi⟩
    refine ⟨box2 (keep_box hX hb), is_any own w1 p s g hR1 o ho.1 ho.2, hN1.size_run 3, hb.size, hg1, hN1, fun hc => ?_⟩
    obtain ⟨w2, k2, D2, a1, a2, a3⟩ := hN1.add o ho hl hc
    exact ⟨w2, k2, D2, a1, a2, ⟨a3.os.trans hg1.os, a3.tape.trans hg1.tape, a3.output.trans hg1.output, Nat.le_trans hg1.size a3.size, fun i hi hne => (a3.block i (Nat.lt_of_lt_of_le hi hg1.size) hne).trans (hg1.block i hi hne)⟩⟩
  rw [vis_new]
  unfold isNew
  generalize hvv : l ++ [o] = l2 at *
  obtain ⟨n, hn⟩ : ∃ n, l.length = n := ⟨_, rfl⟩
  rw [hn] at hK hl
  have i1 : IntKind.u64.wrap (n : Int) = (n : Int) := by rw [IntKind.wrap_u64]; omega
  have i2 : IntKind.u64.wrap ((n : Int) + 1) = (n : Int) + 1 := by rw [IntKind.wrap_u64]; omega
  have HK := Lib.hid hK
  clear hK h hm hNX hB
  generalize l.contains o = c at *
  generalize isOb s o = b at *
  simp only [numV] at *
  rw [hX] at HH hXb
  cases c
  · cases b
    · go_enter Try.func76, Try.ntmps76
      go_wp2_with (first
        | (go_at_call 87; refine HH.mono ?_; rintro e w1 ⟨rfl, hb1⟩; rw [← hX] at hb1; obtain ⟨⟨c0, c1⟩, HI, HL, HSZ, HG, HN, -⟩ := HK.out _ hb1)
        | (go_at_call 53; refine HI.mono ?_; rintro e w' ⟨rfl, rfl⟩))
      all_goals go_ret
      all_goals exact ⟨rfl, ⟨k, D, HN⟩, HG⟩
    · go_enter Try.func76, Try.ntmps76
      go_wp2_with (first
        | (go_at_call 87; refine HH.mono ?_; rintro e w1 ⟨rfl, hb1⟩; rw [← hX] at hb1; obtain ⟨⟨c0, c1⟩, HI, HL, HSZ, HG, HN, HU⟩ := HK.out _ hb1; obtain ⟨w2, k2, D2, HU, HN2⟩ := HU rfl)
        | (go_at_call 53; refine HI.mono ?_; rintro e w' ⟨rfl, rfl⟩))
      all_goals go_ret
      all_goals exact ⟨rfl, ⟨k2, D2, HN2.1⟩, HN2.2⟩
  · go_enter Try.func76, Try.ntmps76
    go_wp2_with (first
      | (go_at_call 87; refine HH.mono ?_; rintro e w1 ⟨rfl, hb1⟩; rw [← hX] at hb1; obtain ⟨⟨c0, c1⟩, HI, HL, HSZ, HG, HN, -⟩ := HK.out _ hb1)
      | (go_at_call 53; refine HI.mono ?_; rintro e w' ⟨rfl, rfl⟩))
    all_goals go_ret
    all_goals exact ⟨rfl, ⟨k, D, HN⟩, HG⟩
end Go.Proofs.Ytklbgccfcfldaaa.Wk
