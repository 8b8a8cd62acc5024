/- onFile: what every operation on a file's handle does. -/
import Derived.Test.YtpkhghjmelgpeaaGreatW9
set_option linter.unusedVariables false
namespace Go.Proofs.YtpkhghjmelgpeaaGreat.Wk
open Go.ChangeShapes Go.WideShapes Go.ChangeAt Go.RowKit M

def ActsF (own : Own) (w : World) (p : Nat) (db : Nat) (r : St × Dd) (e : Ending) (w' : World) : Prop :=
  ∃ own' g', e = .returned (.int .i64 r.2.err) ∧ Rep own' w' p r.1 g' ∧ w'.heap[db]? = some (.cells (ddcells { r.2 with err := 0 }).toArray 82 (0, 0)) ∧ Fr own w own' w' (fun k => k = db)
def DoesF (own : Own) (w : World) (p F : Nat) (caps : Array Value) (s : St) (d : Dd) (do_ : St → Dd → Nat → Int → Nat → St × Dd) : Prop :=
  ∀ (own1 : Own) (w1 : World) (g1 : Gh) (db i : Nat) (m : Int) (a : Nat), hdOf s.hs d.handle = .file false i m a → Rep own1 w1 p { s with ch := s.ch.tail } g1 → own1 db = none → w1.heap[db]? = some (.cells (ddcells d).toArray 82 (0, 0)) → Fr own w own1 w1 noE →
      Calls Tryz.prog F (#[.pointer (some ⟨db, 0, none⟩), .pointer (some ⟨g1.hb (d.handle.toNat - 1), 0, none⟩)] ++ caps) w1 (ActsF own1 w1 p db (do_ { s with ch := s.ch.tail } d i m a))

theorem rep_drew {own : Own} {w : World} {p : Nat} {s : St} {g : Gh} (h : Rep own w p s g) (n : Nat) : Rep own (w.drewN n) p s g := h.kept h.owns (fun _ _ e => e) (fun _ _ _ _ => rfl)
theorem fr_drew {own : Own} {w : World} (n : Nat) (ex : Nat → Prop) : Fr own w own (w.drewN n) ex := ⟨rfl, rfl, rfl, Nat.le_refl _, fun _ _ => rfl, fun _ _ _ _ => rfl⟩
theorem dd_err0 {d : Dd} (h : d.err = 0) (e : Int) : ({ { d with err := e } with err := 0 } : Dd) = d := by cases d; simp at h; subst h; rfl

set_option maxHeartbeats 2000000 in
set_option maxRecDepth 100000 in
theorem onFile1_does (own : Own) (w : World) (p : Nat) (s : St) (d : Dd) (do_ : St → Dd → Nat → Int → Nat → St × Dd) (F : Nat) (caps : Array Value) (wb fb : Nat)
    (hwb : w.heap[wb]? = some (.cells #[.pointer (some ⟨p, 0, none⟩)] 29 (0, 0))) (hfb : w.heap[fb]? = some (.cells #[.func (.func F) #[] caps] 153 (0, 0)))
    (how : own wb = none) (hof : own fb = none) (hd : d.err = 0) (hn : (Lit.int .i64 d.handle).wf = true)
    (hent : ∀ (args : Array Value) (w : World), (callFunc F args).run Tryz.prog w = .ok (.enter F args) w) (hdo : DoesF own w p F caps s d do_) :
    Does own w p 131 #[.pointer (some ⟨wb, 0, none⟩), .pointer (some ⟨fb, 0, none⟩)] s d (M.onFile do_) := by
  intro own1 w1 g1 db k n t hc hR hdb hbox hF
  have hwl := blk_lt hwb
  have hfl := blk_lt hfb
  have hwl1 : wb < w1.heap.size := by have := hF.size; omega
  have hfl1 : fb < w1.heap.size := by have := hF.size; omega
  have hdl1 := blk_lt hbox
  have cw : (w1.alloc (.cells #[.int .u8 k, .int .i64 n, .string t] 63)).cell? ⟨wb, 0, none⟩ = some (.pointer (some ⟨p, 0, none⟩)) := cell_blk ((Below.heap_alloc _ _ _ hwl1).trans ((hF.kept _ hwl how (fun e => e)).trans hwb)) 0
  have cf : (w1.alloc (.cells #[.int .u8 k, .int .i64 n, .string t] 63)).cell? ⟨fb, 0, none⟩ = some (.func (.func F) #[] caps) := cell_blk ((Below.heap_alloc _ _ _ hfl1).trans ((hF.kept _ hfl hof (fun e => e)).trans hfb)) 0
  have cd : (w1.alloc (.cells #[.int .u8 k, .int .i64 n, .string t] 63)).cell? ⟨db, 1, none⟩ = some (.int .i64 d.handle) := cell_blk ((Below.heap_alloc _ _ _ hdl1).trans hbox) 1
  obtain ⟨q1, q2⟩ := alloc_rep hR (.cells #[.int .u8 k, .int .i64 n, .string t] 63)
  have hFO := fun w' (e : w'.heap = (w1.alloc (.cells #[.int .u8 k, .int .i64 n, .string t] 63)).heap) => (fileOf_any own1 w' p _ g1 d.handle (q1.kept (fun k hk => by rw [e]; exact q1.owns k hk) (fun _ _ e => e) (fun _ _ _ _ => by rw [e])) hn).mono (fun _ _ h => And.intro h.1 h.2.symm)
  have hdb' : (w1.alloc (.cells #[.int .u8 k, .int .i64 n, .string t] 63)).heap[db]? = some (.cells (ddcells d).toArray 82 (0, 0)) := (Below.heap_alloc _ _ _ hdl1).trans hbox
  have HFO := Lib.hid hFO
  have Q1 := Lib.hid q1
  have Q2 := Lib.hid q2
  have HB := Lib.hid hdb'
  have HF := Lib.hid hF
  have HD := Lib.hid hd
  have HDO := Lib.hid hdo
  clear hFO q1 q2 hdb' hF hwb hfb hR hd hn hbox hdo
  have CW := Lib.hid cw
  have CF := Lib.hid cf
  have CD := Lib.hid cd
  clear cw cf cd
  have hq1 : ∀ nq, Rep own1 ((w1.alloc (.cells #[.int .u8 k, .int .i64 n, .string t] 63)).drewN nq) p _ g1 := fun nq => rep_drew Q1.out nq
  have HQ := Lib.hid hq1
  clear hq1
  cases hh : hdOf s.hs d.handle with
  | closed =>
    have HA : Hid (M.onFile do_ { s with ch := s.ch.tail } ⟨k, n, t⟩ d = ({ s with ch := s.ch.tail }, { d with err := 30 })) := Lib.hid (by unfold M.onFile; simp only; rw [hh])
    rw [hh] at HFO
    simp only [fileV] at HFO
    clear hh
    go_enter Tryz.func131, Tryz.ntmps131
    go_wp2
    have cw := CW.out
    have cd := CD.out
    clear CW CD
    generalize w1.alloc (.cells #[.int .u8 k, .int .i64 n, .string t] 63) = W at *
    go_quiet ((go_at_call 87; refine Calls.quiet_of_same (HFO.out _ ?_); rfl))
    go_wp2
    go_ret
    refine ⟨own1, g1, by rw [HA.out]; rfl, by rw [HA.out]; exact HQ.out _, ?_, (Q2.out.weak _).trans (fr_drew _ _)⟩
    rw [HA.out]
    show _ = some (Obj.cells (ddcells { { d with err := 30 } with err := 0 }).toArray _ _)
    rw [dd_err0 HD.out]; exact HB.out
  | host st =>
    have HA : Hid (M.onFile do_ { s with ch := s.ch.tail } ⟨k, n, t⟩ d = ({ s with ch := s.ch.tail }, { d with err := 30 })) := Lib.hid (by unfold M.onFile; simp only; rw [hh])
    rw [hh] at HFO
    simp only [fileV] at HFO
    clear hh
    go_enter Tryz.func131, Tryz.ntmps131
    go_wp2
    have cw := CW.out
    have cd := CD.out
    clear CW CD
    generalize w1.alloc (.cells #[.int .u8 k, .int .i64 n, .string t] 63) = W at *
    go_quiet ((go_at_call 87; refine Calls.quiet_of_same (HFO.out _ ?_); rfl))
    go_wp2
    go_ret
    refine ⟨own1, g1, by rw [HA.out]; rfl, by rw [HA.out]; exact HQ.out _, ?_, (Q2.out.weak _).trans (fr_drew _ _)⟩
    rw [HA.out]
    show _ = some (Obj.cells (ddcells { { d with err := 30 } with err := 0 }).toArray _ _)
    rw [dd_err0 HD.out]; exact HB.out
  | file st i m a =>
    cases st
    · have HA : Hid (M.onFile do_ { s with ch := s.ch.tail } ⟨k, n, t⟩ d = do_ { s with ch := s.ch.tail } d i m a) := Lib.hid (by unfold M.onFile; simp only; rw [hh])
      have hcall := fun nq => HDO.out own1 ((w1.alloc (.cells #[.int .u8 k, .int .i64 n, .string t] 63)).drewN nq) g1 db i m a hh (HQ.out nq) hdb HB.out ((HF.out.trans (Q2.out)).trans (fr_drew nq _))
      have HC := Lib.hid hcall
      rw [hh] at HFO
      simp only [fileV] at HFO
      clear hh hcall HDO
      go_enter Tryz.func131, Tryz.ntmps131
      go_wp2
      have cw := CW.out
      have cd := CD.out
      have cf := CF.out
      clear CW CD CF
      generalize w1.alloc (.cells #[.int .u8 k, .int .i64 n, .string t] 63) = W at *
      go_quiet ((go_at_call 87; refine Calls.quiet_of_same (HFO.out _ ?_); rfl))
      go_wp2_with fail
      refine (HC.out _).mono ?_
      rintro e w4 ⟨own4, g4, rfl, hR4, hbx4, hF4⟩
      have H1 := Lib.hid hR4
      have H2 := Lib.hid hbx4
      have H3 := Lib.hid hF4
      clear hR4 hbx4 hF4
      go_wp2
      go_ret
      exact ⟨own4, g4, by rw [HA.out]; rfl, by rw [HA.out]; exact H1.out, by rw [HA.out]; exact H2.out, ((Q2.out.weak _).trans (fr_drew _ _)).trans H3.out⟩
    · have HA : Hid (M.onFile do_ { s with ch := s.ch.tail } ⟨k, n, t⟩ d = ({ s with ch := s.ch.tail }, { d with err := 31 })) := Lib.hid (by unfold M.onFile; simp only; rw [hh])
      rw [hh] at HFO
      simp only [fileV] at HFO
      clear hh
      go_enter Tryz.func131, Tryz.ntmps131
      go_wp2
      have cw := CW.out
      have cd := CD.out
      clear CW CD
      generalize w1.alloc (.cells #[.int .u8 k, .int .i64 n, .string t] 63) = W at *
      go_quiet ((go_at_call 87; refine Calls.quiet_of_same (HFO.out _ ?_); rfl))
      go_wp2
      go_ret
      refine ⟨own1, g1, by rw [HA.out]; rfl, by rw [HA.out]; exact HQ.out _, ?_, (Q2.out.weak _).trans (fr_drew _ _)⟩
      rw [HA.out]
      show _ = some (Obj.cells (ddcells { { d with err := 31 } with err := 0 }).toArray _ _)
      rw [dd_err0 HD.out]; exact HB.out

set_option maxHeartbeats 2000000 in
set_option maxRecDepth 100000 in
theorem onFile_any (own : Own) (w : World) (p : Nat) (s : St) (g : Gh) (h : Rep own w p s g) (dk dh : Int) (dt dto : ByteArray) (dn : Int) (F : Nat) (caps : Array Value) (do_ : St → Dd → Nat → Int → Nat → St × Dd)
    (hn : (Lit.int .i64 dh).wf = true) (hent : ∀ (args : Array Value) (w : World), (callFunc F args).run Tryz.prog w = .ok (.enter F args) w)
    (hdo : DoesF own w p F caps s ⟨dk, dh, dt, dto, dn, 0⟩ do_) (ht : s.told.length ≤ 1099511627776)
    (hta : (M.onFile do_ { s with ch := s.ch.tail } (s.ch.headD noCh) ⟨dk, dh, dt, dto, dn, 0⟩).1.told = s.told) :
    Calls Tryz.prog 93 #[.pointer (some ⟨p, 0, none⟩), .agg #[.int .u8 dk, .int .i64 dh, .string dt, .string dto, .int .i64 dn, .int .i64 0], .func (.func F) #[] caps] w (Performs own w p s ⟨dk, dh, dt, dto, dn, 0⟩ (M.onFile do_)) := by
  have hB : Below w.heap.size w ((((w.alloc (.cells #[.pointer (some ⟨p, 0, none⟩)] 29)).alloc (.cells #[.int .u8 dk, .int .i64 dh, .string dt, .string dto, .int .i64 dn, .int .i64 0] 82)).alloc (.cells #[.func (.func F) #[] caps] 153)).alloc (.cells #[.int .u8 0, .int .i64 0, .string ⟨#[]⟩, .string ⟨#[]⟩, .int .i64 0, .int .i64 0] 82)) :=
    ((((Below.refl _ _).alloc (Nat.le_refl _) _).alloc (by simp) _).alloc (by simp; omega) _).alloc (by simp; omega) _
  obtain ⟨W, hW⟩ : ∃ W, W = ((((w.alloc (.cells #[.pointer (some ⟨p, 0, none⟩)] 29)).alloc (.cells #[.int .u8 dk, .int .i64 dh, .string dt, .string dto, .int .i64 dn, .int .i64 0] 82)).alloc (.cells #[.func (.func F) #[] caps] 153)).alloc (.cells #[.int .u8 0, .int .i64 0, .string ⟨#[]⟩, .string ⟨#[]⟩, .int .i64 0, .int .i64 0] 82)) := ⟨_, rfl⟩
  rw [← hW] at hB
  have hWs : W.heap.size = w.heap.size + 4 := by rw [hW]; simp
  have b0 : W.heap[w.heap.size]? = some (.cells #[.pointer (some ⟨p, 0, none⟩)] 29 (0, 0)) := by
    rw [hW]; exact (Below.heap_alloc _ _ _ (by simp; omega)).trans ((Below.heap_alloc _ _ _ (by simp; omega)).trans ((Below.heap_alloc _ _ _ (by simp)).trans (heap_alloc_new w _)))
  have b2 : W.heap[w.heap.size + 2]? = some (.cells #[.func (.func F) #[] caps] 153 (0, 0)) := by
    rw [hW]; exact (Below.heap_alloc _ _ _ (by simp)).trans (by have := heap_alloc_new ((w.alloc (.cells #[.pointer (some ⟨p, 0, none⟩)] 29)).alloc (.cells #[.int .u8 dk, .int .i64 dh, .string dt, .string dto, .int .i64 dn, .int .i64 0] 82)) (.cells #[.func (.func F) #[] caps] 153); simpa using this)
  have b3 : W.heap[w.heap.size + 3]? = some (.cells #[.int .u8 0, .int .i64 0, .string ⟨#[]⟩, .string ⟨#[]⟩, .int .i64 0, .int .i64 0] 82 (0, 0)) := by
    rw [hW]; have := heap_alloc_new (((w.alloc (.cells #[.pointer (some ⟨p, 0, none⟩)] 29)).alloc (.cells #[.int .u8 dk, .int .i64 dh, .string dt, .string dto, .int .i64 dn, .int .i64 0] 82)).alloc (.cells #[.func (.func F) #[] caps] 153)) (.cells #[.int .u8 0, .int .i64 0, .string ⟨#[]⟩, .string ⟨#[]⟩, .int .i64 0, .int .i64 0] 82); simpa using this
  have hRW := h.below hB (Nat.le_refl _)
  have hFW : Fr own w own W noE := Fr.of_below hB (Nat.le_refl _) _
  have hdo' : DoesF own W p F caps s ⟨dk, dh, dt, dto, dn, 0⟩ do_ := fun own1 w1 g1 db i m a e1 e2 e3 e4 e5 => hdo own1 w1 g1 db i m a e1 e2 e3 e4 (hFW.trans e5)
  have hP := perform_any own W p s g hRW dk dh dt dto dn 131 #[.pointer (some ⟨w.heap.size, 0, none⟩), .pointer (some ⟨w.heap.size + 2, 0, none⟩)] (M.onFile do_) (Go.Proofs.enters_of Tryz.func131 (by kernel_rfl) rfl)
    (onFile1_does own W p s _ do_ F caps _ _ b0 b2 (owns_none h.owns (Nat.le_refl _)) (owns_none h.owns (by omega)) rfl hn hent hdo') ht hta
  have HP := Lib.hid hP
  have HW := Lib.hid hW
  have HFW := Lib.hid hFW
  have hown3 : own (w.heap.size + 3) = none := owns_none h.owns (by omega)
  have B3 := Lib.hid b3
  have HO := Lib.hid h.owns
  clear hP hW hFW b0 b2 b3 hRW hdo' hB h hdo hent hta
  go_enter Tryz.func93, Tryz.ntmps93
  go_wp2_with fail
  rw [← HW.out]
  refine HP.out.mono ?_
  rintro e w1 ⟨own', g', rfl, hR, hF⟩
  obtain ⟨r, hr⟩ : ∃ r, r = perform s ⟨dk, dh, dt, dto, dn, 0⟩ (M.onFile do_) := ⟨_, rfl⟩
  rw [← hr] at hR
  rw [← hr]
  have hr3 : w1.heap[w.heap.size + 3]? = _ := (hF.kept _ (by omega) hown3 (fun e => e)).trans B3.out
  have hsz1 : w.heap.size + 3 < w1.heap.size := by have := hF.size; omega
  have hown3' : own' (w.heap.size + 3) = none := (hF.old _ (by omega)).trans hown3
  obtain ⟨y0, y1, y2, y3, y4, y5, yf⟩ := box6 hr3
  obtain ⟨s', a0, a1, a2, a3, a4, a5⟩ := r
  have HF := Lib.hid hF
  have HPR := Lib.hid hr
  have HR := Lib.hid hR
  clear HP hF hr hR hr3 B3
  have e0 : (ddcells ⟨a0, a1, a2, a3, a4, a5⟩).toArray = #[.int .u8 a0, .int .i64 a1, .string a2, .string a3, .int .i64 a4, .int .i64 a5] := rfl
  simp only [e0]
  clear e0
  go_wp2
  refine bodyPost_ret (v := .agg #[.int .u8 a0, .int .i64 a1, .string a2, .string a3, .int .i64 a4, .int .i64 a5]) (by simp [results, Tryz.results93, go_sem, y0, y1, y2, y3, y4, y5]) rfl ?_
  obtain ⟨q1, q2⟩ := set6_rep HR.out (w.heap.size + 3) hown3' (.int .u8 a0) (.int .i64 a1) (.string a2) (.string a3) (.int .i64 a4) (.int .i64 a5)
  exact ⟨own', g', by rw [← HPR.out]; rfl, by rw [← HPR.out]; exact q1, Fr.drop (((HFW.out.trans HF.out).weak (Late w)).trans (q2.mono fun k _ e => by subst e; show w.heap.size ≤ w.heap.size + 3; omega)) (fun k e => e)⟩
end Go.Proofs.YtpkhghjmelgpeaaGreat.Wk
