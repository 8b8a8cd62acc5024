/- Show; full, fileOf. -/
import Derived.Test.YtpkhghjmelgpeaaGreatW8
import Derived.Shelf.Abstract
set_option linter.unusedVariables false
namespace Go.Proofs.YtpkhghjmelgpeaaGreat.Wk
open Go.ChangeShapes Go.WideShapes Go.ChangeAt Go.RowKit M

/-- What an operation leaves and answers. -/
def Ops (own : Own) (w : World) (p : Nat) (s : St) (d : Dd) (act : St → Ch → Dd → St × Dd) (v : Dd → Value) (e : Ending) (w' : World) : Prop :=
  ∃ own' g', e = .returned (v (perform s d act).2) ∧ Rep own' w' p (perform s d act).1 g' ∧ Fr own w own' w' noE

set_option maxHeartbeats 1000000 in
set_option maxRecDepth 100000 in
theorem succeed_does (own : Own) (w : World) (p : Nat) (s : St) (d : Dd) (hd : d.err = 0) : Does own w p 85 #[] s d actNone := by
  intro own1 w1 g1 db k n t hc hR hdb hbox hF
  have HR := Lib.hid hR
  have HB := Lib.hid hbox
  clear hR hbox
  go_enter Tryz.func85, Tryz.ntmps85
  go_wp2
  go_ret
  have : ({ d with err := 0 } : Dd) = d := by cases d; simp at hd; subst hd; rfl
  refine ⟨own1, g1, rfl, HR.out.below ((Below.refl _ w1).alloc (Nat.le_refl _) _) (Nat.le_refl _), ?_, Fr.of_below ((Below.refl _ w1).alloc (Nat.le_refl _) _) (Nat.le_refl _) _⟩
  show _ = some (Obj.cells (ddcells { d with err := 0 }).toArray _ _)
  rw [this]
  exact (Below.heap_alloc _ _ _ (blk_lt HB.out)).trans HB.out

theorem field5 (a0 a1 a4 a5 : Int) (a2 a3 : ByteArray) (w : World) : (Instr.field 82 (.agg #[.int .u8 a0, .int .i64 a1, .string a2, .string a3, .int .i64 a4, .int .i64 a5]) 5).run Tryz.prog w = .ok (.int .i64 a5) w := by kernel_rfl
set_option maxHeartbeats 1000000 in
set_option maxRecDepth 100000 in
theorem show_any (own : Own) (w : World) (p : Nat) (s : St) (g : Gh) (t : ByteArray) (h : Rep own w p s g) (ht : s.told.length ≤ 1099511627776) :
    Calls Tryz.prog 24 #[.pointer (some ⟨p, 0, none⟩), .string t] w (Ops own w p s ⟨13, 0, t, noS, 0, 0⟩ actNone fun d => .int .i64 d.err) := by
  have hP := Lib.hid (perform_any own w p s g h 13 0 t noS 0 85 #[] actNone (Go.Proofs.enters_of Tryz.func85 (by kernel_rfl) rfl) (succeed_does own w p s _ rfl) ht rfl)
  clear h
  go_enter Tryz.func24, Tryz.ntmps24
  go_wp2_with fail
  refine hP.out.mono ?_
  rintro e w1 ⟨own', g', rfl, hR, hF⟩
  obtain ⟨r, hr⟩ : ∃ r, r = perform s ⟨13, 0, t, noS, 0, 0⟩ actNone := ⟨_, rfl⟩
  rw [← hr] at hR
  rw [← hr]
  have HF := Lib.hid hF
  have HP := Lib.hid hr
  clear hP hF hr
  obtain ⟨s', a0, a1, a2, a3, a4, a5⟩ := r
  have HR := Lib.hid hR
  clear hR
  have e0 : (ddcells ⟨a0, a1, a2, a3, a4, a5⟩).toArray = #[.int .u8 a0, .int .i64 a1, .string a2, .string a3, .int .i64 a4, .int .i64 a5] := rfl
  simp only [e0]
  clear e0
  have hf := field5 a0 a1 a4 a5 a2 a3 w1
  go_wp2
  go_ret
  exact ⟨own', g', by rw [← HP.out]; rfl, by rw [← HP.out]; exact HR.out, HF.out⟩
theorem Rh_nil {v : Value} {ps : List MemPlace} (h : Rh v = some (.nil, ps)) : v = .nilIface := by
  unfold Rh at h
  split at h
  · rfl
  · simp at h
  · cases h
theorem Rh_hd {v : Value} {t b : Nat} {ps : List MemPlace} (h : Rh v = some (hd t b, ps)) : v = .iface t (.pointer (some ⟨b, 0, none⟩)) := by
  unfold Rh hd at h
  split at h
  · simp at h
  · rename_i t' b'
    simp at h
    obtain ⟨⟨h1, h2⟩, _⟩ := h
    rw [show t' = t from Int.ofNat_inj.1 h1, show b' = b from Int.ofNat_inj.1 h2]
  · cases h
theorem Rp_nil {v : Value} {ps : List MemPlace} (h : Rp v = some (.nil, ps)) : v = .pointer none := by
  unfold Rp at h
  split at h
  · rfl
  · simp at h
  · cases h
theorem Rp_pd {v : Value} {b : Nat} {ps : List MemPlace} (h : Rp v = some (pd b, ps)) : v = .pointer (some ⟨b, 0, none⟩) := by
  unfold Rp pd at h
  split at h
  · simp at h
  · rename_i b'
    simp at h
    rw [show b' = b from Int.ofNat_inj.1 h.1]
  · cases h
theorem zeroH (w : World) : (zeroValue 135).run Tryz.prog w = .ok .nilIface w := by kernel_rfl
theorem zeroP (w : World) : (zeroValue 86).run Tryz.prog w = .ok (.pointer none) w := by kernel_rfl
theorem lawI : Maps.Keyed Tryz.prog 3 := Maps.int_keyed Tryz.underlying3
theorem lawS : Maps.Keyed Tryz.prog 9 := Maps.string_keyed Tryz.underlying9
/-- What the map of handles holds at a number. -/
def hval (g : Gh) (n : Int) : Hd → Value
  | .closed => .nilIface
  | .file _ _ _ _ => .iface 138 (.pointer (some ⟨g.hb (n.toNat - 1), 0, none⟩))
  | .host _ => .iface 168 (.pointer (some ⟨g.hb (n.toNat - 1), 0, none⟩))
theorem look_h {own : Own} {w : World} {p : Nat} {s : St} {g : Gh} (h : Rep own w p s g) (n : Int) (hn : (Lit.int .i64 n).wf = true) :
    (Instr.lookup 88 (.map (some g.hm)) (.int .i64 n) false).run Tryz.prog w = .ok (hval g n (hdOf s.hs n)) w := by
  obtain ⟨v, ps, hr, hv⟩ := h.hmap.lookup lawI Tryz.underlying88 (zeroH w) (zd := .nil) (zp := []) rfl (key := .int .i64 n) (Maps.keyOf_int_mk Tryz.underlying3 hn)
  rw [hr]
  have ha := (h.his.at_ n hn).1
  rw [show (Lit.int .i64 n) = ikey n from rfl, ha] at hv
  cases hh : hdOf s.hs n with
  | closed => rw [hh] at hv; rw [Rh_nil hv]; rfl
  | file a b c d => rw [hh] at hv; rw [Rh_hd hv]; rfl
  | host a => rw [hh] at hv; rw [Rh_hd hv]; rfl
def fval (g : Gh) : Option Nat → Value
  | none => .pointer none
  | some i => .pointer (some ⟨g.fb i, 0, none⟩)
theorem look_f {own : Own} {w : World} {p : Nat} {s : St} {g : Gh} (h : Rep own w p s g) (t : ByteArray) (ht : t.size ≤ maxLen) :
    (Instr.lookup 87 (.map (some g.fm)) (.string t) false).run Tryz.prog w = .ok (fval g (find s.fs t)) w := by
  obtain ⟨v, ps, hr, hv⟩ := h.fmap.lookup lawS Tryz.underlying87 (zeroP w) (zd := .nil) (zp := []) rfl (key := .string t) (Go.WideMaps.keyOf_string_mk Tryz.underlying9 ht)
  rw [hr]
  have ha := (h.fis.at_ t ht).1
  rw [show (Lit.string t.data.toList) = skey t from rfl, ha] at hv
  cases hh : find s.fs t with
  | none => rw [hh] at hv; rw [Rp_nil hv]; rfl
  | some i => rw [hh] at hv; rw [Rp_pd hv]; rfl

theorem hdOf_get {hs : List Hd} {n : Int} {h : Hd} (hh : hdOf hs n = h) (hc : h ≠ .closed) : 1 ≤ n ∧ hs[n.toNat - 1]? = some h := by
  unfold hdOf at hh
  split at hh
  · rename_i h1
    refine ⟨h1, ?_⟩
    rw [List.getD_eq_getElem?_getD] at hh
    cases hq : hs[n.toNat - 1]? with
    | none => rw [hq] at hh; exact absurd hh.symm hc
    | some x => rw [hq] at hh; simp at hh; rw [hh]
  · exact absurd hh.symm hc

theorem ta_nil (w : World) : (Instr.typeAssert .nilIface 135 138 true).run Tryz.prog w = .ok (.tuple #[.pointer none, .bool false]) w := by kernel_rfl
theorem ta_file (b : Nat) (w : World) : (Instr.typeAssert (.iface 138 (.pointer (some ⟨b, 0, none⟩))) 135 138 true).run Tryz.prog w = .ok (.tuple #[.pointer (some ⟨b, 0, none⟩), .bool true]) w := by kernel_rfl
theorem ta_host (b : Nat) (w : World) : (Instr.typeAssert (.iface 168 (.pointer (some ⟨b, 0, none⟩))) 135 138 true).run Tryz.prog w = .ok (.tuple #[.pointer none, .bool false]) w := by kernel_rfl
def fileV (g : Gh) (n : Int) : Hd → Value
  | .file false _ _ _ => .tuple #[.pointer (some ⟨g.hb (n.toNat - 1), 0, none⟩), .int .i64 0]
  | .file true _ _ _ => .tuple #[.pointer (some ⟨g.hb (n.toNat - 1), 0, none⟩), .int .i64 31]
  | _ => .tuple #[.pointer none, .int .i64 30]
set_option maxHeartbeats 2000000 in
set_option maxRecDepth 100000 in
theorem fileOf_any (own : Own) (w : World) (p : Nat) (s : St) (g : Gh) (n : Int) (h : Rep own w p s g) (hn : (Lit.int .i64 n).wf = true) :
    Calls Tryz.prog 87 #[.pointer (some ⟨p, 0, none⟩), .int .i64 n] w fun e w' => e = .returned (fileV g n (hdOf s.hs n)) ∧ w = w' := by
  have hlook := look_h h n hn
  have c6 : w.cell? ⟨p, 6, none⟩ = some (.map (some g.hm)) := cell_blk h.wcell 6
  cases hh : hdOf s.hs n with
  | closed =>
    rw [hh] at hlook
    simp only [hval] at hlook
    clear h hh
    have hta := ta_nil w
    go_enter Tryz.func87, Tryz.ntmps87
    go_wp2
    go_ret2
    exact ⟨rfl, rfl⟩
  | file st i m a =>
    rw [hh] at hlook
    simp only [hval] at hlook
    have hH := h.hands _ _ (hdOf_get hh (by simp)).2
    obtain ⟨_, fp, hb, _⟩ := hH
    have c0 : w.cell? ⟨g.hb (n.toNat - 1), 0, none⟩ = some (.bool st) := cell_blk hb 0
    clear h hh hb
    have hta := ta_file (g.hb (n.toNat - 1)) w
    cases st
    all_goals
      go_enter Tryz.func87, Tryz.ntmps87
      go_wp2_with (go_at_call 130; refine (fault_any _ _ _ c0).mono ?_; rintro e w' ⟨rfl, rfl⟩)
      go_ret2
      exact ⟨rfl, rfl⟩
  | host st =>
    rw [hh] at hlook
    simp only [hval] at hlook
    clear h hh
    have hta := ta_host (g.hb (n.toNat - 1)) w
    go_enter Tryz.func87, Tryz.ntmps87
    go_wp2
    go_ret2
    exact ⟨rfl, rfl⟩
end Go.Proofs.YtpkhghjmelgpeaaGreat.Wk
