/- The law GraphTells answers true, for every argument. -/
import Derived.Test.YtklbgccfcfldaaaF9
import Derived.Test.YtklbgccfcfldaaaG1
import Derived.Test.YtklbgccfcfldaaaD2
import Derived.ChangeSlices
import Derived.OpenShut
set_option linter.unusedVariables false
namespace Go.Proofs.Ytklbgccfcfldaaa.Wk
open Go M

theorem visL_skip (s : Hp) (q : List Int) : ∀ (l : List Int), (∀ v ∈ l, isOb s v = false ∨ v ∈ q) → visL s q l = q
  | [], _ => rfl
  | v :: r, h => by
    have h1 : vis s q v = q := by
      unfold vis
      rcases h v (by simp) with e | e
      · rw [e]; rfl
      · have : q.contains v = true := by simpa using e
        rw [this]; simp
    show visL s (vis s q v) r = q
    rw [h1]
    exact visL_skip s q r fun u hu => h u (by simp [hu])
theorem visL_app (s : Hp) (q l1 l2 : List Int) : visL s q (l1 ++ l2) = visL s (visL s q l1) l2 := by simp [visL, List.foldl_append]
theorem isOb_0 (s : Hp) : isOb s 0 = false := by
  unfold isOb
  have : isK 3 0 = false := by decide
  rw [this]; rfl
theorem isOb_1 (s : Hp) (v : Int) (h : v % 8 = 1) : isOb s v = false := by
  have h1 : tagN v = 1 := (tag1 v).2 h
  unfold isOb isK
  rw [h1]; rfl

/-- Two objects in eden: one of n + 1 oops of class c at word 2, one of m bytes behind it. -/
structure Tl (s : Hp) (c : Int) (n m : Nat) : Prop where
  wf : Wf s
  n1 : n ≤ 1000
  m1 : m ≤ 1000
  c0 : 0 ≤ c ∧ c ≤ 4095
  st2 : s.st 2 = true
  stb : s.st (n + 5) = true
  h2 : s.mem 2 = packA c 1 0 0 0 false false
  h3 : s.mem 3 = (n : Int) + 1
  hb : s.mem (n + 5) = packA 1 5 (spareOf m) 0 0 false false
  hb1 : s.mem (n + 6) = (slotsOf m : Int)
  a1 : s.ar 1 = ⟨2, n + 7 + slotsOf m, 4098⟩
  spec : s.spec = List.replicate 64 0
  cls : s.cls = List.replicate 4096 0
  stack : s.stack = [16]
  queue : s.queue = []
theorem spareOf_le (m : Nat) : spareOf m ≤ 7 := by unfold spareOf; omega
section
variable {s : Hp} {c : Int} {n m : Nat}
theorem Tl.p2 (h : Tl s c n m) : uC (s.mem 2) = c ∧ uF (s.mem 2) = 1 ∧ uS (s.mem 2) = 0 ∧ uH (s.mem 2) = 0 ∧ uA (s.mem 2) = 0 ∧ uM (s.mem 2) = false ∧ uN (s.mem 2) = false := by
  have := h.c0
  rw [h.h2]
  exact u_pack c 1 0 0 0 false false (by omega) (by omega) (by omega) (by omega) (by omega) (by omega) (by omega) (by omega) (by omega) (by omega)
theorem Tl.pb (h : Tl s c n m) : uC (s.mem (n + 5)) = 1 ∧ uF (s.mem (n + 5)) = 5 ∧ uS (s.mem (n + 5)) = spareOf m ∧ uH (s.mem (n + 5)) = 0 ∧ uA (s.mem (n + 5)) = 0 ∧ uM (s.mem (n + 5)) = false ∧ uN (s.mem (n + 5)) = false := by
  have := spareOf_le m
  rw [h.hb]
  exact u_pack 1 5 (spareOf m) 0 0 false false (by omega) (by omega) (by omega) (by omega) (by omega) (by omega) (by omega) (by omega) (by omega) (by omega)
theorem Tl.sl2 (h : Tl s c n m) : sl s 2 = n + 1 := by unfold sl; rw [show s.mem (2 + 1) = _ from h.h3]; omega
theorem Tl.slb (h : Tl s c n m) : sl s (n + 5) = slotsOf m := by unfold sl; rw [show s.mem (n + 5 + 1) = _ from h.hb1]; omega
theorem Tl.f2 (h : Tl s c n m) : fmt s 2 = 1 := h.p2.2.1
theorem Tl.fb (h : Tl s c n m) : fmt s (n + 5) = 5 := h.pb.2.1
theorem Tl.o2 (h : Tl s c n m) : nOops s 2 = n + 1 := by unfold nOops; rw [h.f2, if_pos (.inl rfl), h.sl2]
theorem Tl.ob (h : Tl s c n m) : nOops s (n + 5) = 0 := by unfold nOops; rw [h.fb]; simp
theorem Tl.nb2 (h : Tl s c n m) : nBytes s 2 = 0 := by unfold nBytes hasB; rw [h.f2]; simp
theorem Tl.nbb (h : Tl s c n m) : nBytes s (n + 5) = m := by
  have e : hasB s (n + 5) = true := by unfold hasB; rw [h.fb]; simp
  have es : spr s (n + 5) = spareOf m := by unfold spr; rw [h.pb.2.2.1]; omega
  unfold nBytes
  rw [e, if_pos rfl, h.slb, h.ob, es]
  unfold slotsOf spareOf; omega
theorem Tl.is2 (h : Tl s c n m) : isOb s 16 = true ∧ atO 16 = 2 := isOb_mk h.wf h.st2
theorem Tl.isb (h : Tl s c n m) : isOb s (8 * ((n + 5 : Nat) : Int)) = true ∧ atO (8 * ((n + 5 : Nat) : Int)) = n + 5 := isOb_mk h.wf h.stb
theorem Tl.young (h : Tl s c n m) : isYoung s 16 = true := by
  have hsp : spaceAt s 2 = 1 := spaceAt_in h.wf (by omega) (by omega) (Nat.le_of_eq (by rw [h.a1])) (by rw [h.a1]; show 2 < 4098; omega)
  unfold isYoung spaceOf
  rw [h.is2.1, h.is2.2, if_pos rfl, hsp]; rfl
theorem Tl.slot (h : Tl s c n m) (i : Nat) (hi : i ≤ n) (v : Int) (hv : 0 ≤ v ∧ v ≤ 18446744073709551615) : Tl (setSlotS s 2 i v) c n m := by
  have hm : ∀ j, j ≠ 4 + i → (setSlotS s 2 i v).mem j = s.mem j := fun j hj => upd_other _ _ _ _ (by omega)
  exact ⟨wf_slot h.wf h.st2 (by rw [h.sl2]; omega) (fun e => by rw [h.f2] at e; cases e) hv, h.n1, h.m1, h.c0, h.st2, h.stb, (hm 2 (by omega)).trans h.h2, (hm 3 (by omega)).trans h.h3,
    (hm (n + 5) (by omega)).trans h.hb, (hm (n + 6) (by omega)).trans h.hb1, h.a1, h.spec, h.cls, h.stack, h.queue⟩
theorem Tl.bat (h : Tl s c n m) (j : Nat) : bAt s (n + 5) j = n + 7 + j / 8 := by unfold bAt; rw [h.ob]
theorem Tl.byte (h : Tl s c n m) (j : Nat) (hj : j < m) (b : Int) (hb : 0 ≤ b ∧ b ≤ 255) : Tl (setByteS s (n + 5) j b) c n m := by
  have e : setByteS s (n + 5) j b = setSlotS s (n + 5) (j / 8) (setB (s.mem (n + 7 + j / 8)) (j % 8 * 8) b) := by
    unfold setByteS setSlotS
    rw [h.bat]
  have hmm := h.wf.mem (n + 7 + j / 8)
  have hv := setB_bd (s.mem (n + 7 + j / 8)) b (j % 8 * 8) (by omega) hmm.1 hmm.2 hb.1 hb.2
  rw [e]
  generalize setB (s.mem (n + 7 + j / 8)) (j % 8 * 8) b = v at hv
  have hm : ∀ i, i < n + 7 → (setSlotS s (n + 5) (j / 8) v).mem i = s.mem i := fun i hi => upd_other _ _ _ _ (by omega)
  exact ⟨wf_slot h.wf h.stb (by rw [h.slb]; unfold slotsOf; omega) (fun e => by rw [h.fb] at e; cases e) hv, h.n1, h.m1, h.c0, h.st2, h.stb, (hm 2 (by omega)).trans h.h2, (hm 3 (by omega)).trans h.h3,
    (hm (n + 5) (by omega)).trans h.hb, (hm (n + 6) (by omega)).trans h.hb1, h.a1, h.spec, h.cls, h.stack, h.queue⟩
theorem Tl.klass (h : Tl s c n m) (c' : Int) (hc : 0 ≤ c' ∧ c' ≤ 4095) :
    Tl (hdS s 2 (packA c' (uF (s.mem 2)) (uS (s.mem 2)) (uH (s.mem 2)) (uA (s.mem 2)) (uM (s.mem 2)) (uN (s.mem 2))) (sl s 2)) c' n m := by
  obtain ⟨e0, e1, e2, e3, e4, e5, e6⟩ := h.p2
  rw [e1, e2, e3, e4, e5, e6, h.sl2]
  have e : hdS s 2 (packA c' 1 0 0 0 false false) ((n + 1 : Nat) : Int) = setHdS s 2 (packA c' 1 0 0 0 false false) := by
    unfold hdS setHdS
    congr 1
    funext j
    by_cases q : j = 3
    · subst q; rw [upd_same, upd_other _ _ _ _ (by omega), h.h3]; omega
    · rw [upd_other _ _ _ _ q]
  rw [e]
  have hm : ∀ j, j ≠ 2 → (setHdS s 2 (packA c' 1 0 0 0 false false)).mem j = s.mem j := fun j hj => upd_other _ _ _ _ hj
  obtain ⟨u1, u2, u3, u4, u5, u6, u7⟩ := u_pack c' 1 0 0 0 false false (by omega) (by omega) (by omega) (by omega) (by omega) (by omega) (by omega) (by omega) (by omega) (by omega)
  have hp : 0 ≤ packA c' 1 0 0 0 false false ∧ packA c' 1 0 0 0 false false ≤ 70368744177663 := by unfold packA bit; simp; omega
  refine ⟨wf_head h.wf h.st2 hp.1 ?_ (fun e => by rw [h.f2] at e; cases e) (fun e => by rw [u2] at e; cases e), h.n1, h.m1, hc, h.st2, h.stb, (show upd s.mem 2 _ 2 = _ from upd_same _ _ _), (hm 3 (by omega)).trans h.h3, (hm _ (by omega)).trans h.hb, (hm _ (by omega)).trans h.hb1, h.a1, h.spec, h.cls, h.stack, h.queue⟩
  have hn := h.n1
  rw [unB_iff, u1, u2, u3, u4, u5, show s.mem (2 + 1) = _ from h.h3, hdB_iff]
  refine ⟨hp.2, by omega, hc, by omega, by omega, by omega, by omega, ?_⟩
  omega

/-! ### what is reached -/
theorem Tl.first (h : Tl s c n m) : visL s [] (roots s) = [16] := by
  unfold roots
  rw [h.spec, h.cls, h.stack, h.queue, List.append_nil, visL_app, visL_app, visL_skip s [] (List.replicate 64 0) (fun v hv => .inl (by rw [List.eq_of_mem_replicate hv]; exact isOb_0 s)),
    visL_skip s [] (List.replicate 4096 0) (fun v hv => .inl (by rw [List.eq_of_mem_replicate hv]; exact isOb_0 s))]
  show vis s [] 16 = [16]
  unfold vis
  rw [h.is2.1]; rfl
theorem Tl.oops2 (h : Tl s c n m) : oopsL s 2 = (List.range n).map (fun i => s.mem (4 + i)) ++ [s.mem (4 + n)] := by
  unfold oopsL
  rw [h.o2, List.range_succ, List.map_append]; rfl
theorem Tl.oopsb (h : Tl s c n m) : oopsL s (n + 5) = [] := by
  unfold oopsL
  rw [h.ob]; rfl
theorem Tl.size (h : Tl s c n m) : ∃ k, s.n = k + 3 := ⟨s.n - 3, by have := (h.wf.st 2 h.st2).2.1; omega⟩
/-- No number of slots but the last names an object. -/
def Nos (s : Hp) (n : Nat) : Prop := ∀ i, i < n → s.mem (4 + i) % 8 = 1
theorem Tl.skip (h : Tl s c n m) (hs : Nos s n) : visL s [16] ((List.range n).map fun i => s.mem (4 + i)) = [16] :=
  visL_skip s [16] _ fun v hv => by
    obtain ⟨i, hi, rfl⟩ := List.mem_map.1 hv
    exact .inl (isOb_1 s _ (hs i (List.mem_range.1 hi)))
theorem Tl.reach2 (h : Tl s c n m) (hs : Nos s n) (hl : s.mem (4 + n) = 8 * ((n + 5 : Nat) : Int)) : reachL s = [16, 8 * ((n + 5 : Nat) : Int)] := by
  obtain ⟨k, hk⟩ := h.size
  have hv : visL s [16] (oopsL s (atO 16)) = [16, 8 * ((n + 5 : Nat) : Int)] := by
    rw [h.is2.2, h.oops2, visL_app, h.skip hs, hl]
    show vis s [16] _ = _
    unfold vis
    rw [h.isb.1]
    have : ([16] : List Int).contains (8 * ((n + 5 : Nat) : Int)) = false := by simp; omega
    rw [this]; rfl
  unfold reachL
  rw [h.first, hk, fol_step s (k + 2) 0 [16] 16 rfl, hv, fol_step s (k + 1) 1 _ (8 * ((n + 5 : Nat) : Int)) rfl, h.isb.2, h.oopsb]
  show fol s [] (k + 1) 2 [16, 8 * ((n + 5 : Nat) : Int)] = _
  rw [fol_end _ _ _ _ _ rfl]
theorem Tl.reach1 (h : Tl s c n m) (hs : Nos s n) (hl : isOb s (s.mem (4 + n)) = false ∨ s.mem (4 + n) = 16) : reachL s = [16] := by
  obtain ⟨k, hk⟩ := h.size
  have hv : visL s [16] (oopsL s (atO 16)) = [16] := by
    rw [h.is2.2, h.oops2, visL_app, h.skip hs]
    refine visL_skip s [16] _ fun v hv => ?_
    simp at hv; subst hv
    rcases hl with e | e
    · exact .inl e
    · exact .inr (by rw [e]; simp)
  unfold reachL
  rw [h.first, hk, fol_step s (k + 2) 0 [16] 16 rfl, hv, fol_end _ _ _ _ _ rfl]
theorem Tl.roots (h : Tl s c n m) : M.roots s = List.replicate 64 0 ++ List.replicate 4096 0 ++ [16] := by
  unfold M.roots
  rw [h.spec, h.cls, h.stack, h.queue, List.append_nil]

/-- .. with its slots laid. -/
structure Fl (s : Hp) (c : Int) (n m : Nat) : Prop where
  tl : Tl s c n m
  nos : Nos s n
  last : s.mem (4 + n) = 8 * ((n + 5 : Nat) : Int)
theorem Fl.form (h : Fl s c n m) : formL s = [2, 1, 0] ++ (List.replicate 64 (0 : Int) ++ List.replicate 4096 (0 : Int) ++ [16]).map (nameL [16, 8 * ((n + 5 : Nat) : Int)]) ++ (objL s [16, 8 * ((n + 5 : Nat) : Int)] 2 ++ objL s [16, 8 * ((n + 5 : Nat) : Int)] (n + 5)) := by
  unfold formL
  rw [h.tl.reach2 h.nos h.last, h.tl.roots, h.tl.stack, h.tl.queue]
  simp only [List.flatMap_cons, List.flatMap_nil, List.append_nil, h.tl.is2.2, h.tl.isb.2]
  rfl
theorem Fl.obj2 (h : Fl s c n m) (q : List Int) : objL s q 2 = packA c 1 0 0 0 false false :: ((n : Int) + 1) :: (oopsL s 2).map (nameL q) := by
  have hr : restL s 2 = [] := by unfold restL; rw [h.tl.f2, h.tl.nb2]; rfl
  obtain ⟨e0, e1, e2, e3, -⟩ := h.tl.p2
  unfold objL headL
  rw [hr, e0, e2, e3, h.tl.f2, show s.mem (2 + 1) = _ from h.tl.h3]; simp
theorem Fl.len2 (h : Fl s c n m) (q : List Int) : (objL s q 2).length = n + 3 := by
  rw [h.obj2]; simp [oopsL, h.tl.o2]
theorem Fl.same {s' : Hp} {c' : Int} (h : Fl s c n m) (h' : Fl s' c' n m) (e : formL s = formL s') : objL s [16, 8 * ((n + 5 : Nat) : Int)] 2 = objL s' [16, 8 * ((n + 5 : Nat) : Int)] 2 ∧ objL s [16, 8 * ((n + 5 : Nat) : Int)] (n + 5) = objL s' [16, 8 * ((n + 5 : Nat) : Int)] (n + 5) := by
  rw [h.form, h'.form] at e
  exact List.append_inj (List.append_cancel_left e) (by rw [h.len2, h'.len2])
theorem Fl.klass {s' : Hp} {c' : Int} (h : Fl s c n m) (h' : Fl s' c' n m) (hc : c ≠ c') : formL s ≠ formL s' := by
  intro e
  have h1 := (h.same h' e).1
  rw [h.obj2, h'.obj2] at h1
  have h2 := (List.cons.inj h1).1
  unfold packA bit at h2
  simp at h2
  omega
theorem Fl.slot {s' : Hp} {c' : Int} (h : Fl s c n m) (h' : Fl s' c' n m) (k : Nat) (hk : k < n) (hne : s.mem (4 + k) ≠ s'.mem (4 + k)) : formL s ≠ formL s' := by
  intro e
  have h1 := (h.same h' e).1
  rw [h.obj2, h'.obj2] at h1
  have h2 := (List.cons.inj (List.cons.inj h1).2).2
  have h3 := congrArg (fun l => l[k]?) h2
  simp only [oopsL, h.tl.o2, h'.tl.o2, List.getElem?_map] at h3
  rw [List.getElem?_range (by omega)] at h3
  simp only [Option.map_some, Option.some.injEq] at h3
  have hn : ∀ v : Int, v % 8 = 1 → nameL [16, 8 * ((n + 5 : Nat) : Int)] v = v := fun v hv => by
    rw [name_n (by simp; omega), if_pos (.inr (.inl ((tag1 v).2 hv)))]
  rw [show 2 + 2 + k = 4 + k from by omega, hn _ (h.nos k hk), hn _ (h'.nos k hk)] at h3
  exact hne h3
theorem Fl.other {s' : Hp} (h : Fl s c n m) (h1 : reachL s' = [16]) : formL s ≠ formL s' := by
  intro e
  have h2 := h.tl.reach2 h.nos h.last
  unfold formL at e
  rw [h1, h2] at e
  have := (List.cons.inj e).1
  simp at this
theorem mod_part (y : Int) (M r : Nat) (hr : r < M) : y % ((2 ^ (8 * M) : Nat) : Int) / (2 : Int) ^ (r * 8) % 256 = y / (2 : Int) ^ (r * 8) % 256 := by
  obtain ⟨d, rfl⟩ : ∃ d, M = r + 1 + d := ⟨M - r - 1, by omega⟩
  have e : ((2 ^ (8 * (r + 1 + d)) : Nat) : Int) = (2 : Int) ^ (r * 8) * (256 * (2 : Int) ^ (8 * d)) := by
    have h1 : 8 * (r + 1 + d) = r * 8 + (8 + 8 * d) := by omega
    have h8 : (2 : Int) ^ 8 = 256 := by decide
    rw [h1, Int.natCast_pow, Int.pow_add, Int.pow_add]
    rw [← h8]; rfl
  have hp : (0 : Int) < (2 : Int) ^ (r * 8) := Int.pow_pos (by omega)
  rw [e]
  generalize (2 : Int) ^ (r * 8) = a at *
  generalize (2 : Int) ^ (8 * d) = b at *
  have h0 : y % (a * (256 * b)) = y - a * (256 * b) * (y / (a * (256 * b))) := Int.emod_def _ _
  rw [h0]
  generalize y / (a * (256 * b)) = z
  have h2 : y - a * (256 * b) * z = y + a * (-(256 * (b * z))) := by
    rw [Int.mul_assoc a, Int.mul_assoc 256, Int.mul_neg]; omega
  rw [h2, Int.add_mul_ediv_left _ _ (by omega)]
  generalize b * z = t
  omega
theorem Fl.bytes {s' : Hp} {c' : Int} (h : Fl s c n m) (h' : Fl s' c' n m) (j : Nat) (hj : j < m) (b : Int) (hb : 0 ≤ b ∧ b ≤ 255) (hs : s'.mem (n + 7 + j / 8) = setB (s.mem (n + 7 + j / 8)) (j % 8 * 8) b) (hne : byteV s (n + 5) j ≠ b) : formL s ≠ formL s' := by
  intro e
  have h1 := (h.same h' e).2
  have hr : ∀ (u : Hp) (cu : Int), Fl u cu n m → objL u [16, 8 * ((n + 5 : Nat) : Int)] (n + 5) = headL u (n + 5) ++ (List.range ((m + 7) / 8)).map (byteW u (n + 5)) := fun u cu hu => by
    unfold objL restL
    rw [hu.tl.oopsb, hu.tl.fb, hu.tl.nbb, if_neg (by omega)]
    simp
  rw [hr s c h, hr s' c' h'] at h1
  have h2 := (List.append_inj h1 (by simp [headL])).2
  have h3 := congrArg (fun l => l[j / 8]?) h2
  simp only [List.getElem?_map] at h3
  rw [List.getElem?_range (by omega)] at h3
  simp only [Option.map_some, Option.some.injEq] at h3
  unfold byteW at h3
  rw [h.tl.ob, h'.tl.ob, h.tl.nbb, h'.tl.nbb, show n + 5 + 2 + 0 + j / 8 = n + 7 + j / 8 from by omega, hs] at h3
  have hlt : j % 8 < min 8 (m - 8 * (j / 8)) := by omega
  have h4 := congrArg (fun z : Int => z / (2 : Int) ^ (j % 8 * 8) % 256) h3
  try simp only at h4
  rw [mod_part _ _ _ hlt, mod_part _ _ _ hlt, setB_get _ _ _ hb.1 hb.2] at h4
  apply hne
  unfold byteV
  rw [h.tl.bat]
  exact h4
end
end Go.Proofs.Ytklbgccfcfldaaa.Wk
set_option linter.unusedVariables false
namespace Go.Proofs.Ytklbgccfcfldaaa.Wk
open Go M

def layS (s : Hp) (f : Nat → Int) : Nat → Hp
  | 0 => s
  | k + 1 => setSlotS (layS s f k) 2 k (f k)
def byS (s : Hp) (a : Nat) (t : Nat → Int) : Nat → Hp
  | 0 => s
  | k + 1 => setByteS (byS s a t k) a k (t k)
def e0S : Hp := newS 4096 64 64 0
def e1S (c : Int) (n : Nat) : Hp := createS e0S 1 (packA c 1 0 0 0 false false) (n + 1) 0
def e2S (c : Int) (n m : Nat) : Hp := createS (e1S c n) 1 (packA 1 5 (spareOf m) 0 0 false false) (slotsOf m) 0
def e3S (c : Int) (n m : Nat) : Hp := { e2S c n m with stack := (e2S c n m).stack ++ [16] }
theorem sz0 : Sz 4096 64 64 0 0 := by constructor <;> omega
theorem e0_wf : Wf e0S := new_wf sz0
theorem e0_ar : e0S.ar 1 = ⟨2, 2, 4098⟩ := rfl
section
variable {c : Int} {n m : Nat}
theorem hd1 (hc : 0 ≤ c ∧ c ≤ 4095) (hn : n ≤ 1000) : hdB c 1 0 0 0 ((n + 1 : Nat) : Int) = true := by
  rw [hdB_iff, ]
  refine ⟨hc, by omega, by omega, by omega, by omega, ?_⟩
  omega
theorem hd5 (hm : m ≤ 1000) : hdB 1 5 (spareOf m) 0 0 ((slotsOf m : Nat) : Int) = true := by
  rw [hdB_iff]
  unfold spareOf slotsOf
  refine ⟨by omega, by omega, by omega, by omega, by omega, ?_⟩
  omega
theorem fit1 (hc : 0 ≤ c ∧ c ≤ 4095) (hn : n ≤ 1000) : Fit e0S 1 (packA c 1 0 0 0 false false) (n + 1) 0 := by
  obtain ⟨u1, u2, u3, u4, u5, u6, u7⟩ := u_pack c 1 0 0 0 false false (by omega) (by omega) (by omega) (by omega) (by omega) (by omega) (by omega) (by omega) (by omega) (by omega)
  have hp := packA_unB (m := false) (n := false) (hd1 hc hn)
  exact ⟨e0_wf, by omega, by omega, hp.2.1, hp.1, by rw [e0_ar]; simp only; omega, fun e => by rw [u2] at e; cases e⟩
theorem create_ar (s : Hp) (i k lit : Nat) (hd : Int) : (createS s i hd k lit).ar i = ⟨(s.ar i).b, (s.ar i).t + 2 + k, (s.ar i).e⟩ := by
  show upd s.ar i ⟨(s.ar i).b, (s.ar i).t + 2 + k, (s.ar i).e⟩ i = _
  rw [upd_same]
theorem e1_ar : (e1S c n).ar 1 = ⟨2, n + 5, 4098⟩ := by
  unfold e1S
  rw [create_ar, e0_ar]
  show Area.mk 2 (2 + 2 + (n + 1)) 4098 = _
  congr 1; omega
theorem e1_wf (hc : 0 ≤ c ∧ c ≤ 4095) (hn : n ≤ 1000) : Wf (e1S c n) := create_wf (fit1 hc hn)
theorem fit2 (hc : 0 ≤ c ∧ c ≤ 4095) (hn : n ≤ 1000) (hm : m ≤ 1000) : Fit (e1S c n) 1 (packA 1 5 (spareOf m) 0 0 false false) (slotsOf m) 0 := by
  have hs := spareOf_le m
  obtain ⟨u1, u2, u3, u4, u5, u6, u7⟩ := u_pack 1 5 (spareOf m) 0 0 false false (by omega) (by omega) (by omega) (by omega) (by omega) (by omega) (by omega) (by omega) (by omega) (by omega)
  have hp := packA_unB (m := false) (n := false) (hd5 hm)
  exact ⟨e1_wf hc hn, by omega, by omega, hp.2.1, hp.1, by rw [e1_ar]; simp only; unfold slotsOf; omega, fun e => by rw [u2] at e; cases e⟩
theorem e2_wf (hc : 0 ≤ c ∧ c ≤ 4095) (hn : n ≤ 1000) (hm : m ≤ 1000) : Wf (e2S c n m) := create_wf (fit2 hc hn hm)
theorem e2_ar : (e2S c n m).ar 1 = ⟨2, n + 7 + slotsOf m, 4098⟩ := by
  unfold e2S
  rw [create_ar, e1_ar]
theorem made_low {s : Hp} {i k lit : Nat} {hd : Int} (j : Nat) (hj : j < (s.ar i).t) : (madeS s i hd k lit).mem j = s.mem j := by
  unfold madeS putS topS; simp only
  rw [if_neg (by omega), if_neg (by omega), if_neg (by omega), if_neg (by omega)]
theorem made_k {s : Hp} {i k lit : Nat} {hd : Int} : (madeS s i hd k lit).mem ((s.ar i).t + 1) = (k : Int) := by
  unfold madeS putS; simp
theorem e1_mem (hc : 0 ≤ c ∧ c ≤ 4095) (hn : n ≤ 1000) : (e1S c n).mem 2 = packA c 1 0 0 0 false false ∧ (e1S c n).mem 3 = (n : Int) + 1 ∧ (e1S c n).st 2 = true := by
  have hf := fit1 hc hn
  have h1 := made_at hf
  rw [e0_ar] at h1
  refine ⟨?_, ?_, h1.1⟩
  · show (createS e0S 1 _ _ _).mem 2 = _
    rw [create_mem hf 2 (.inl (by rw [e0_ar]; simp only; omega))]; exact h1.2.1
  · show (createS e0S 1 _ _ _).mem 3 = _
    rw [create_mem hf 3 (.inl (by rw [e0_ar]; simp only; omega))]
    have := made_k (s := e0S) (i := 1) (k := n + 1) (lit := 0) (hd := packA c 1 0 0 0 false false)
    rw [e0_ar] at this
    rw [this]; simp
theorem e2_mem (hc : 0 ≤ c ∧ c ≤ 4095) (hn : n ≤ 1000) (hm : m ≤ 1000) : (e2S c n m).mem 2 = packA c 1 0 0 0 false false ∧ (e2S c n m).mem 3 = (n : Int) + 1 ∧ (e2S c n m).st 2 = true ∧ (e2S c n m).st (n + 5) = true ∧
    (e2S c n m).mem (n + 5) = packA 1 5 (spareOf m) 0 0 false false ∧ (e2S c n m).mem (n + 6) = (slotsOf m : Int) := by
  have hf := fit2 hc hn hm
  have h1 := made_at hf
  have h2 := e1_mem (n := n) hc hn
  rw [e1_ar] at h1
  have hlow : ∀ j, j < n + 5 → (e2S c n m).mem j = (e1S c n).mem j := fun j hj => by
    show (createS (e1S c n) 1 _ _ _).mem j = _
    rw [create_mem hf j (.inl (by rw [e1_ar]; simp only; omega)), made_low j (by rw [e1_ar]; exact hj)]
  refine ⟨(hlow 2 (by omega)).trans h2.1, (hlow 3 (by omega)).trans h2.2.1, ?_, h1.1, ?_, ?_⟩
  · show upd (e1S c n).st ((e1S c n).ar 1).t true 2 = true
    rw [e1_ar, upd_other _ _ _ _ (by simp only; omega)]; exact h2.2.2
  · show (createS (e1S c n) 1 _ _ _).mem (n + 5) = _
    rw [create_mem hf _ (.inl (by rw [e1_ar]; simp only; omega))]; exact h1.2.1
  · show (createS (e1S c n) 1 _ _ _).mem (n + 6) = _
    rw [create_mem hf _ (.inl (by rw [e1_ar]; simp only; omega))]
    have := made_k (s := e1S c n) (i := 1) (k := slotsOf m) (lit := 0) (hd := packA 1 5 (spareOf m) 0 0 false false)
    rw [e1_ar] at this
    exact this
theorem e2_roots : (e2S c n m).spec = List.replicate 64 0 ∧ (e2S c n m).cls = List.replicate 4096 0 ∧ (e2S c n m).stack = [] ∧ (e2S c n m).queue = [] := ⟨rfl, rfl, rfl, rfl⟩
theorem wf_push {s : Hp} (h : Wf s) (x : Int) (hx : 0 ≤ x ∧ x ≤ 18446744073709551615) (hl : s.stack.length < 4096) : Wf { s with stack := s.stack ++ [x] } := by
  refine ⟨h.n, h.mem, h.st, h.lit, h.apart, h.ar0, h.ar, h.ars, h.lies, h.spec, h.cls, by simp; omega, h.queue, ?_, h.noted, h.noted2, h.given⟩
  intro v hv
  simp only [List.mem_append, List.mem_singleton] at hv
  have h1 := h.roots v
  simp only [List.mem_append] at h1
  rcases hv with ((hv | hv) | hv | hv) | hv
  · exact h1 (.inl (.inl (.inl hv)))
  · exact h1 (.inl (.inl (.inr hv)))
  · exact h1 (.inl (.inr hv))
  · rw [hv]; exact hx
  · exact h1 (.inr hv)
theorem e3_tl (hc : 0 ≤ c ∧ c ≤ 4095) (hn : n ≤ 1000) (hm : m ≤ 1000) : Tl (e3S c n m) c n m := by
  obtain ⟨a1, a2, a3, a4, a5, a6⟩ := e2_mem (n := n) (m := m) hc hn hm
  exact ⟨wf_push (e2_wf hc hn hm) 16 (by omega) (by rw [e2_roots.2.2.1]; simp), hn, hm, hc, a3, a4, a1, a2, a5, a6, e2_ar, rfl, rfl, rfl, rfl⟩
theorem lay_tl {s : Hp} (h : Tl s c n m) (f : Nat → Int) (hf : ∀ i, (0 ≤ f i ∧ f i ≤ 18446744073709551615) ∧ f i % 8 = 1) : ∀ k, k ≤ n → Tl (layS s f k) c n m ∧ ∀ i, i < k → (layS s f k).mem (4 + i) % 8 = 1
  | 0, _ => ⟨h, fun i hi => by omega⟩
  | k + 1, hk => by
    obtain ⟨h1, h2⟩ := lay_tl h f hf k (by omega)
    refine ⟨h1.slot k (by omega) _ (hf k).1, fun i hi => ?_⟩
    show (upd (layS s f k).mem (2 + 2 + k) (f k)) (4 + i) % 8 = 1
    by_cases e : i = k
    · subst e; rw [show 2 + 2 + i = 4 + i from by omega, upd_same]; exact (hf i).2
    · rw [upd_other _ _ _ _ (by omega)]; exact h2 i (by omega)
theorem lay_fl {s : Hp} (h : Tl s c n m) (f : Nat → Int) (hf : ∀ i, (0 ≤ f i ∧ f i ≤ 18446744073709551615) ∧ f i % 8 = 1) : Fl (setSlotS (layS s f n) 2 n (8 * ((n + 5 : Nat) : Int))) c n m := by
  obtain ⟨h1, h2⟩ := lay_tl h f hf n (Nat.le_refl _)
  have hn := h.n1
  refine ⟨h1.slot n (Nat.le_refl _) _ (by omega), fun i hi => ?_, ?_⟩
  · show (upd _ (2 + 2 + n) _) (4 + i) % 8 = 1
    rw [upd_other _ _ _ _ (by omega)]; exact h2 i hi
  · show (upd _ (2 + 2 + n) _) (4 + n) = _
    rw [show 2 + 2 + n = 4 + n from by omega, upd_same]
theorem Fl.byte {s : Hp} (h : Fl s c n m) (j : Nat) (hj : j < m) (b : Int) (hb : 0 ≤ b ∧ b ≤ 255) : Fl (setByteS s (n + 5) j b) c n m := by
  have hm : ∀ i, i < n + 7 → (setByteS s (n + 5) j b).mem i = s.mem i := fun i hi => upd_other _ _ _ _ (by rw [h.tl.bat]; omega)
  exact ⟨h.tl.byte j hj b hb, fun i hi => by rw [hm _ (by omega)]; exact h.nos i hi, by rw [hm _ (by omega)]; exact h.last⟩
theorem by_fl {s : Hp} (h : Fl s c n m) (t : Nat → Int) (ht : ∀ i, 0 ≤ t i ∧ t i ≤ 255) : ∀ k, k ≤ m → Fl (byS s (n + 5) t k) c n m
  | 0, _ => h
  | k + 1, hk => (by_fl h t ht k (by omega)).byte k (by omega) _ (ht k)
/-- .. all of it. -/
def txS (c : Int) (n m : Nat) (f t : Nat → Int) : Hp := byS (setSlotS (layS (e3S c n m) f n) 2 n (8 * ((n + 5 : Nat) : Int))) (n + 5) t m
theorem tx_fl (hc : 0 ≤ c ∧ c ≤ 4095) (hn : n ≤ 1000) (hm : m ≤ 1000) (f t : Nat → Int) (hf : ∀ i, (0 ≤ f i ∧ f i ≤ 18446744073709551615) ∧ f i % 8 = 1) (ht : ∀ i, 0 ≤ t i ∧ t i ≤ 255) : Fl (txS c n m f t) c n m :=
  by_fl (lay_fl (e3_tl hc hn hm) f hf) t ht m (Nat.le_refl _)

/-! ### one change of it -/
theorem Fl.setb {s : Hp} (h : Fl s c n m) (j : Nat) (hj : j < m) (b : Int) (hb : 0 ≤ b ∧ b ≤ 255) (hne : byteV s (n + 5) j ≠ b) : formL s ≠ formL (setByteS s (n + 5) j b) :=
  h.bytes (h.byte j hj b hb) j hj b hb (by
    show upd s.mem (bAt s (n + 5) j) (setB (s.mem (bAt s (n + 5) j)) (j % 8 * 8) b) (n + 7 + j / 8) = _
    rw [h.tl.bat, upd_same]) hne
theorem Fl.setk {s : Hp} (h : Fl s c n m) (k : Nat) (hk : k < n) (v : Int) (hv : 0 ≤ v ∧ v ≤ 18446744073709551615) (h8 : v % 8 = 1) (hne : s.mem (4 + k) ≠ v) : formL s ≠ formL (setSlotS s 2 k v) := by
  have hm : ∀ j, j ≠ 4 + k → (setSlotS s 2 k v).mem j = s.mem j := fun j hj => upd_other _ _ _ _ (by omega)
  have hk4 : (setSlotS s 2 k v).mem (4 + k) = v := by
    show upd s.mem (2 + 2 + k) v (4 + k) = v
    rw [show 2 + 2 + k = 4 + k from by omega, upd_same]
  have h' : Fl (setSlotS s 2 k v) c n m := ⟨h.tl.slot k (by omega) v hv, fun i hi => by
    by_cases e : i = k
    · subst e; rw [hk4]; exact h8
    · rw [hm _ (by omega)]; exact h.nos i hi, by rw [hm _ (by omega)]; exact h.last⟩
  exact h.slot h' k hk (by rw [hk4]; exact hne)
theorem Fl.setl {s : Hp} (h : Fl s c n m) : formL s ≠ formL (setSlotS s 2 n 16) := by
  have hm : ∀ j, j ≠ 4 + n → (setSlotS s 2 n 16).mem j = s.mem j := fun j hj => upd_other _ _ _ _ (by omega)
  have h' := h.tl.slot n (Nat.le_refl _) 16 (by omega)
  refine h.other (h'.reach1 (fun i hi => by rw [hm _ (by omega)]; exact h.nos i hi) (.inr ?_))
  show upd s.mem (2 + 2 + n) 16 (4 + n) = 16
  rw [show 2 + 2 + n = 4 + n from by omega, upd_same]
theorem Fl.setc {s : Hp} (h : Fl s c n m) (hc : c + 1 ≤ 4095) : formL s ≠ formL (hdS s 2 (packA (c + 1) (uF (s.mem 2)) (uS (s.mem 2)) (uH (s.mem 2)) (uA (s.mem 2)) (uM (s.mem 2)) (uN (s.mem 2))) (sl s 2)) := by
  have hc0 := h.tl.c0
  have h' := h.tl.klass (c + 1) (by omega)
  have hm : ∀ j v l, 4 ≤ j → (hdS s 2 v l).mem j = s.mem j := fun j v l hj => by
    show upd (upd s.mem 2 v) (2 + 1) l j = _
    rw [upd_other _ _ _ _ (by omega), upd_other _ _ _ _ (by omega)]
  exact h.klass ⟨h', fun i hi => by rw [hm _ _ _ (by omega)]; exact h.nos i hi, by rw [hm _ _ _ (by omega)]; exact h.last⟩ (by omega)
end
end Go.Proofs.Ytklbgccfcfldaaa.Wk
set_option linter.unusedVariables false
namespace Go.Proofs.Ytklbgccfcfldaaa.Wk
open Go M

def k0S : Hp := newS 64 16 64 0
def k1S : Hp := createS k0S 1 (packA 5 1 0 0 0 false false) 2 0
def k2S : Hp := setSlotS k1S 2 0 16
def k3S : Hp := setSlotS k2S 2 1 9
def k4S : Hp := { k3S with stack := k3S.stack ++ [16] }
theorem szK : Sz 64 16 64 0 0 := by constructor <;> omega
theorem k0_ar : k0S.ar 1 = ⟨2, 2, 66⟩ := rfl
theorem hdK : hdB 5 1 0 0 0 ((2 : Nat) : Int) = true := by decide
theorem fitK : Fit k0S 1 (packA 5 1 0 0 0 false false) 2 0 := by
  obtain ⟨u1, u2, u3, u4, u5, u6, u7⟩ := u_pack 5 1 0 0 0 false false (by omega) (by omega) (by omega) (by omega) (by omega) (by omega) (by omega) (by omega) (by omega) (by omega)
  have hp := packA_unB (m := false) (n := false) hdK
  exact ⟨new_wf szK, by omega, by omega, hp.2.1, hp.1, by rw [k0_ar]; simp only; omega, fun e => by rw [u2] at e; cases e⟩
theorem k1_wf : Wf k1S := create_wf fitK
theorem k1_mem : k1S.mem 2 = 4101 ∧ k1S.mem 3 = 2 ∧ k1S.st 2 = true := by
  have h1 := made_at fitK
  rw [k0_ar] at h1
  refine ⟨?_, ?_, h1.1⟩
  · show (createS k0S 1 _ _ _).mem 2 = _
    rw [create_mem fitK 2 (.inl (by rw [k0_ar]; simp only; omega)), h1.2.1]; decide
  · show (createS k0S 1 _ _ _).mem 3 = _
    rw [create_mem fitK 3 (.inl (by rw [k0_ar]; simp only; omega))]
    have := made_k (s := k0S) (i := 1) (k := 2) (lit := 0) (hd := packA 5 1 0 0 0 false false)
    rw [k0_ar] at this
    exact this
theorem k1_f : fmt k1S 2 = 1 ∧ sl k1S 2 = 2 ∧ nOops k1S 2 = 2 := by
  have h1 : fmt k1S 2 = 1 := by unfold fmt; rw [k1_mem.1]; decide
  have h2 : sl k1S 2 = 2 := by unfold sl; rw [show k1S.mem (2 + 1) = 2 from k1_mem.2.1]; rfl
  refine ⟨h1, h2, ?_⟩
  unfold nOops; rw [h1, h2]; rfl
theorem kslot_mem (s : Hp) (i : Nat) (v : Int) (j : Nat) : (setSlotS s 2 i v).mem j = if j = 2 + 2 + i then v else s.mem j := rfl
theorem k2_wf : Wf k2S := wf_slot k1_wf k1_mem.2.2 (by rw [k1_f.2.1]; omega) (fun e => by rw [k1_f.1] at e; cases e) (by omega)
theorem k2_mem : k2S.mem 2 = 4101 ∧ k2S.mem 3 = 2 ∧ k2S.mem 4 = 16 ∧ k2S.st 2 = true := ⟨k1_mem.1, k1_mem.2.1, rfl, k1_mem.2.2⟩
theorem k2_f : fmt k2S 2 = 1 ∧ sl k2S 2 = 2 ∧ nOops k2S 2 = 2 := k1_f
theorem k3_wf : Wf k3S := wf_slot k2_wf k2_mem.2.2.2 (by rw [k2_f.2.1]; omega) (fun e => by rw [k2_f.1] at e; cases e) (by omega)
theorem k4_wf : Wf k4S := wf_push k3_wf 16 (by omega) (by show ([] : List Int).length < 4096; simp)
theorem k4_mem : k4S.mem 2 = 4101 ∧ k4S.mem 3 = 2 ∧ k4S.mem 4 = 16 ∧ k4S.mem 5 = 9 ∧ k4S.st 2 = true := ⟨k1_mem.1, k1_mem.2.1, rfl, rfl, k1_mem.2.2⟩
theorem k4_f : fmt k4S 2 = 1 ∧ sl k4S 2 = 2 ∧ nOops k4S 2 = 2 := k1_f
theorem kyoung {s : Hp} (h : Wf s) (hs : s.st 2 = true) (ha : s.ar 1 = k1S.ar 1) : isOb s 16 = true ∧ atO 16 = 2 ∧ isYoung s 16 = true := by
  obtain ⟨e1, e2⟩ := isOb_mk h hs
  have ea : s.ar 1 = ⟨2, 6, 66⟩ := by rw [ha]; rfl
  have hsp : spaceAt s 2 = 1 := spaceAt_in h (by omega) (by omega) (by rw [ea]; exact Nat.le_refl _) (by rw [ea]; simp)
  refine ⟨e1, e2, ?_⟩
  unfold isYoung spaceOf
  rw [show (16 : Int) = 8 * ((2 : Nat) : Int) from rfl, e1, e2, if_pos rfl, hsp]; rfl
theorem k4_oops : oopsL k4S 2 = [16, 9] := by
  unfold oopsL
  rw [k4_f.2.2]
  show [k4S.mem 4, k4S.mem 5] = _
  rw [k4_mem.2.2.1, k4_mem.2.2.2.1]
theorem k4_roots : roots k4S = List.replicate 64 0 ++ List.replicate 4096 0 ++ [16] := by
  show List.replicate 64 0 ++ List.replicate 4096 0 ++ [16] ++ [] = _
  rw [List.append_nil]
theorem k4_reach : reachL k4S = [16] := by
  obtain ⟨e1, e2, -⟩ := kyoung k4_wf k4_mem.2.2.2.2 rfl
  have h0 : visL k4S [] (roots k4S) = [16] := by
    rw [k4_roots, visL_app, visL_app, visL_skip k4S [] (List.replicate 64 0) (fun v hv => .inl (by rw [List.eq_of_mem_replicate hv]; exact isOb_0 _)),
      visL_skip k4S [] (List.replicate 4096 0) (fun v hv => .inl (by rw [List.eq_of_mem_replicate hv]; exact isOb_0 _))]
    show vis k4S [] 16 = [16]
    unfold vis
    rw [e1]; rfl
  have hv : visL k4S [16] (oopsL k4S (atO 16)) = [16] := by
    rw [e2, k4_oops]
    refine visL_skip k4S [16] _ fun v hv => ?_
    simp at hv
    rcases hv with rfl | rfl
    · exact .inr (by simp)
    · exact .inl (isOb_1 _ _ (by omega))
  obtain ⟨k, hk⟩ : ∃ k, k4S.n = k + 3 := ⟨255, rfl⟩
  unfold reachL
  rw [h0, hk, fol_step k4S (k + 2) 0 [16] 16 rfl, hv, fol_end _ _ _ _ _ rfl]
theorem k4_form : formL k4S = [1, 1, 0] ++ List.replicate 4160 0 ++ [8, 4101, 2, 8, 9] := by
  obtain ⟨e1, e2, -⟩ := kyoung k4_wf k4_mem.2.2.2.2 rfl
  have n0 : nameL [16] 0 = 0 := by decide
  have n1 : nameL [16] 16 = 8 := by decide
  have n9 : nameL [16] 9 = 9 := by decide
  have hr : restL k4S 2 = [] := by
    have hb : nBytes k4S 2 = 0 := by unfold nBytes hasB; rw [k4_f.1]; rfl
    unfold restL; rw [k4_f.1, hb]; rfl
  have ho : objL k4S [16] 2 = [4101, 2, 8, 9] := by
    unfold objL headL
    rw [hr, k4_oops, k4_f.1, k4_mem.1, show k4S.mem (2 + 1) = 2 from k4_mem.2.1]
    simp only [List.map_cons, List.map_nil, n1, n9]
    decide
  unfold formL
  rw [k4_reach, k4_roots]
  simp only [List.flatMap_cons, List.flatMap_nil, List.append_nil, e2, ho]
  rw [List.map_append, List.map_append, List.map_replicate, List.map_replicate, n0]
  simp only [List.map_cons, List.map_nil, n1]
  rw [List.replicate_append_replicate]
  simp only [List.append_assoc]
  rfl
theorem k4_len : (formL k4S).length = 4168 := by rw [k4_form, List.length_append, List.length_append, List.length_replicate]; rfl
set_option maxRecDepth 20000 in
theorem k4_at : (formL k4S)[0]? = some 1 ∧ (formL k4S)[1]? = some 1 ∧ (formL k4S)[2]? = some 0 ∧ (formL k4S)[3]? = some 0 ∧ (formL k4S)[4163]? = some 8 ∧ (formL k4S)[4164]? = some 4101 ∧ (formL k4S)[4165]? = some 2 ∧ (formL k4S)[4166]? = some 8 ∧ (formL k4S)[4167]? = some 9 := by
  rw [k4_form]
  have hl : (([1, 1, 0] : List Int) ++ List.replicate 4160 0).length = 4163 := by rw [List.length_append, List.length_replicate]; rfl
  have h3 : ((([1, 1, 0] : List Int) ++ List.replicate 4160 0) ++ [8, 4101, 2, 8, 9])[3]? = some 0 := by
    rw [List.getElem?_append_left (by rw [hl]; omega), List.getElem?_append_right (Nat.le_refl 3), List.getElem?_replicate, if_pos (by show 3 - 3 < 4160; omega)]
  have hlo : ∀ i : Nat, i < 3 → ((([1, 1, 0] : List Int) ++ List.replicate 4160 0) ++ [8, 4101, 2, 8, 9])[i]? = ([1, 1, 0] : List Int)[i]? := fun i hi => by
    rw [List.getElem?_append_left (by rw [hl]; omega), List.getElem?_append_left (by simpa using hi)]
  have hhi : ∀ i : Nat, ((([1, 1, 0] : List Int) ++ List.replicate 4160 0) ++ [8, 4101, 2, 8, 9])[4163 + i]? = ([8, 4101, 2, 8, 9] : List Int)[i]? := fun i => by
    rw [List.getElem?_append_right (by rw [hl]; omega), hl]
    rw [Nat.add_sub_cancel_left]
  exact ⟨hlo 0 (by omega), hlo 1 (by omega), hlo 2 (by omega), h3, hhi 0, hhi 1, hhi 2, hhi 3, hhi 4⟩
end Go.Proofs.Ytklbgccfcfldaaa.Wk
set_option linter.unusedVariables false
namespace Go.Proofs.Ytklbgccfcfldaaa.Wk
open Go.ChangeShapes Go.WideShapes Go.ChangeAt Go.RowKit Go.Shelf M

theorem formL_len {s : Hp} (hw : Wf s) (hq : s.queue.length ≤ 4194304) : (formL s).length ≤ 1099400000000 := by
  have h1 := vd_len hw (reach_vd s)
  have h2 := hw.n
  have q1 := flat_len (fun o => objL s (reachL s) (atO o)) 131074 (reachL s) fun o ho => objL_len hw _ (isOb_at hw ((reach_vd s).2 o ho)).2
  have q2 : (reachL s).length * 131074 ≤ 4194304 * 131074 := Nat.mul_le_mul_right _ (by omega)
  have q3 := hw.spec
  have q4 := hw.cls
  have q5 := hw.stack
  unfold formL
  simp only [List.length_append, List.length_map, List.length_cons, List.length_nil]
  unfold M.roots
  simp only [List.length_append]
  omega

set_option maxRecDepth 100000 in
set_option maxHeartbeats 4000000 in
theorem same_any (own : Own) (w : World) (p1 p2 : Nat) (s1 s2 : Hp) (g1 g2 : Gh) (h1 : Rep own w p1 s1 g1) (h2 : Rep own w p2 s2 g2) (w1 : Wf s1) (w2 : Wf s2) (q1 : s1.queue.length ≤ 4194304) (q2 : s2.queue.length ≤ 4194304) :
    Calls Try.prog 12 #[.pointer (some ⟨p1, 0, none⟩), .pointer (some ⟨p2, 0, none⟩)] w fun e w' => e = .returned (.bool (formL s1 == formL s2)) ∧ Below w.heap.size w w' := by
  have HA := form_any own w p1 s1 g1 h1 w1 q1
  have HB := Lib.hid (fun X (b : Below w.heap.size w X) => form_any own X p2 s2 g2 (h2.below b (Nat.le_refl _)) w2 q2)
  have hl1 := formL_len w1 q1
  have hl2 := formL_len w2 q2
  have HE := Lib.hid (fun X v1 v2 (a : Wr X v1 (formL s1)) (b : Wr X v2 (formL s2)) => equal_any X v1 v2 (formL s1) (formL s2) a b ⟨by omega, by omega⟩)
  clear h1 h2 hl1 hl2
  go_enter Try.func12, Try.ntmps12
  go_wp2_with (first
    | (go_at_call 10; first
        | (refine HA.mono ?_; rintro e wa ⟨va, rfl, hr, -, hb⟩; have H1 := Lib.hid (And.intro hr hb); clear hr hb HA)
        | (refine (HB.out _ H1.out.2).mono ?_; rintro e wb ⟨vb, rfl, hr, -, hb⟩; have H2 := Lib.hid (And.intro hr (And.intro (H1.out.1.below hb) (H1.out.2.trans (hb.mono H1.out.2.size)))); clear hr hb))
    | (go_at_call 36; refine (HE.out _ _ _ H2.out.2.1 H2.out.1).mono ?_; rintro e wc ⟨rfl, hb⟩))
  go_ret
  exact ⟨rfl, H2.out.2.2.trans (hb.mono H2.out.2.2.size)⟩

/-! ### the example's steps -/
section
variable {own : Own} {w : World} {p : Nat} {g : Gh}
theorem kA (h : Rep own w p k0S g) : Calls Try.prog 7 #[.pointer (some ⟨p, 0, none⟩), .int .u8 1, .int .i64 5, .int .u8 1, .int .i64 2] w fun e w' => e = .returned (.tuple #[.int .u64 16, .int .i64 0]) ∧ Rep own w' p k1S g ∧ Fr p own w own w' noE := by
  have := alloc_fit own w p k0S g h 1 (.inl rfl) 5 1 2 (by omega) (by omega) hdK fitK (fun e => by omega)
  rw [k0_ar] at this
  exact this
theorem kB (h : Rep own w p k1S g) : Calls Try.prog 8 #[.pointer (some ⟨p, 0, none⟩), .int .u64 16, .int .i64 0, .int .u64 16] w (Done own w p k2S g) := by
  obtain ⟨e1, e2, e3⟩ := kyoung k1_wf k1_mem.2.2 rfl
  have := setSlot_y own w p k1S g h k1_wf 16 (by omega) (by omega) e1 0 (by rw [e2, k1_f.2.2]; omega) (fun e => by rw [e2, k1_f.1] at e; cases e) 16 (by omega) (by omega) (by unfold okV; rw [e1]; simp) (.inr e3)
  rw [e2] at this
  exact this
theorem kC (h : Rep own w p k2S g) : Calls Try.prog 8 #[.pointer (some ⟨p, 0, none⟩), .int .u64 16, .int .i64 1, .int .u64 9] w (Done own w p k3S g) := by
  obtain ⟨e1, e2, e3⟩ := kyoung k2_wf k2_mem.2.2.2 rfl
  have := setSlot_y own w p k2S g h k2_wf 16 (by omega) (by omega) e1 1 (by rw [e2, k2_f.2.2]; omega) (fun e => by rw [e2, k2_f.1] at e; cases e) 9 (by omega) (by omega) (by unfold okV; rw [show tagN 9 = 1 from by decide]; simp) (.inr e3)
  rw [e2] at this
  exact this
theorem kD (h : Rep own w p k3S g) : Calls Try.prog 9 #[.pointer (some ⟨p, 0, none⟩), .int .u64 16] w fun e w' => e = .returned (.tuple #[.int .i64 0, .int .i64 0]) ∧ ∃ own' g', Rep own' w' p k4S g' ∧ Fr p own w own' w' noE := by
  obtain ⟨e1, e2, e3⟩ := kyoung k3_wf k2_mem.2.2.2 rfl
  exact push_y own w p k3S g h 16 (by omega) (by unfold okV; rw [e1]; simp) (by show ([] : List Int).length < 4096; simp)
theorem kN (w : World) : Calls Try.prog 6 #[szV 64 16 64 0 0] w fun e w' => ∃ p own' g, e = .returned (.tuple #[.pointer (some ⟨p, 0, none⟩), .int .i64 0]) ∧ Rep own' w' p k0S g ∧ Fr p (fun _ => none) w own' w' noE :=
  (new_y (fun _ => none) 64 16 64 0 0 szK w (fun k hk => absurd rfl hk)).mono (by
    rintro e w' ⟨p, own', g, rfl, ⟨a, b⟩, -, -⟩
    exact ⟨p, own', g, rfl, a, b⟩)
end
end Go.Proofs.Ytklbgccfcfldaaa.Wk
set_option linter.unusedVariables false
namespace Go.Proofs.Ytklbgccfcfldaaa.Wk
open Go.ChangeShapes Go.WideShapes Go.ChangeAt Go.RowKit Go.Shelf M

theorem k4_q : k4S.queue.length ≤ 4194304 := Nat.zero_le _
theorem one_row (w : World) (x : Int) : Row (w.alloc (.cells #[.int .u64 x] 33)) 33 1 (.slice (some ⟨w.heap.size, 0, none⟩) 1 1) ([x] : List Int).length (ocells [x]) :=
  ⟨rfl, .inr ⟨w.heap.size, 1, _, rfl, by omega, ⟨_, heap_alloc_new w _, .inl (Nat.le_refl _)⟩, Nat.le_refl _, by unfold maxLen; omega, rfl, rfl⟩⟩
def F9 (W : World) (g : Nat) : Prop := W.cell? ⟨g, 0, none⟩ = some (.int .u64 1) ∧ W.cell? ⟨g, 1, none⟩ = some (.int .u64 1) ∧ W.cell? ⟨g, 2, none⟩ = some (.int .u64 0) ∧ W.cell? ⟨g, 3, none⟩ = some (.int .u64 0) ∧ W.cell? ⟨g, 4163, none⟩ = some (.int .u64 8) ∧
  W.cell? ⟨g, 4164, none⟩ = some (.int .u64 4101) ∧ W.cell? ⟨g, 4165, none⟩ = some (.int .u64 2) ∧ W.cell? ⟨g, 4166, none⟩ = some (.int .u64 8) ∧ W.cell? ⟨g, 4167, none⟩ = some (.int .u64 9)
theorem F9.below {W W' : World} {g : Nat} (h : F9 W g) (hg : g < W.heap.size) (hb : Below W.heap.size W W') : F9 W' g := by
  have e := fun o => cell_of_heap (hb.block g hg) o
  obtain ⟨h0, h1, h2, h3, h4, h5, h6, h7, h8⟩ := h
  exact ⟨(e _).trans h0, (e _).trans h1, (e _).trans h2, (e _).trans h3, (e _).trans h4, (e _).trans h5, (e _).trans h6, (e _).trans h7, (e _).trans h8⟩
theorem form_cells {W : World} {v : Value} (fl : List Int) (hl : fl.length = 4168) (ha : fl[0]? = some 1 ∧ fl[1]? = some 1 ∧ fl[2]? = some 0 ∧ fl[3]? = some 0 ∧ fl[4163]? = some 8 ∧ fl[4164]? = some 4101 ∧ fl[4165]? = some 2 ∧ fl[4166]? = some 8 ∧ fl[4167]? = some 9) (h : Wr W v fl) :
    ∃ g c, v = .slice (some ⟨g, 0, none⟩) 4168 c ∧ g < W.heap.size ∧ F9 W g := by
  obtain ⟨a, c, e, e1, e2⟩ := h.cells
  rw [hl] at e e1
  obtain ⟨g, rfl, hg⟩ := e1 (by omega)
  have hc : ∀ (j : Nat) (x : Int), fl[j]? = some x → W.cell? ⟨g, j, none⟩ = some (.int .u64 x) := fun j x hx => by
    obtain ⟨g', q, hc⟩ := e2 j (.int .u64 x) (by simp [ocells, hx])
    cases q
    exact hc
  obtain ⟨h0, h1, h2, h3, h4, h5, h6, h7, h8⟩ := ha
  exact ⟨g, c, e, h.lt g hg, hc _ _ h0, hc _ _ h1, hc _ _ h2, hc _ _ h3, hc _ _ h4, hc _ _ h5, hc _ _ h6, hc _ _ h7, hc _ _ h8⟩
/-- The example's steps, of states that are not looked into. -/
theorem kPack : ∃ s0 s1 s2 s3 s4 : Hp,
    (∀ w, Calls Try.prog 6 #[szV 64 16 64 0 0] w fun e w' => ∃ p own' g, e = .returned (.tuple #[.pointer (some ⟨p, 0, none⟩), .int .i64 0]) ∧ Rep own' w' p s0 g ∧ Fr p (fun _ => none) w own' w' noE) ∧
    (∀ own w p g, Rep own w p s0 g → Calls Try.prog 7 #[.pointer (some ⟨p, 0, none⟩), .int .u8 1, .int .i64 5, .int .u8 1, .int .i64 2] w fun e w' => e = .returned (.tuple #[.int .u64 16, .int .i64 0]) ∧ Rep own w' p s1 g ∧ Fr p own w own w' noE) ∧
    (∀ own w p g, Rep own w p s1 g → Calls Try.prog 8 #[.pointer (some ⟨p, 0, none⟩), .int .u64 16, .int .i64 0, .int .u64 16] w (Done own w p s2 g)) ∧
    (∀ own w p g, Rep own w p s2 g → Calls Try.prog 8 #[.pointer (some ⟨p, 0, none⟩), .int .u64 16, .int .i64 1, .int .u64 9] w (Done own w p s3 g)) ∧
    (∀ own w p g, Rep own w p s3 g → Calls Try.prog 9 #[.pointer (some ⟨p, 0, none⟩), .int .u64 16] w fun e w' => e = .returned (.tuple #[.int .i64 0, .int .i64 0]) ∧ ∃ own' g', Rep own' w' p s4 g' ∧ Fr p own w own' w' noE) ∧
    (∀ own w p g, Rep own w p s4 g → Calls Try.prog 10 #[.pointer (some ⟨p, 0, none⟩)] w fun e w' => ∃ b c, e = .returned (.slice (some ⟨b, 0, none⟩) 4168 c) ∧ b < w'.heap.size ∧ F9 w' b ∧ Below w.heap.size w w') ∧
    (∀ own w p g, Rep own w p s4 g → Calls Try.prog 18 #[.pointer (some ⟨p, 0, none⟩)] w fun e w' => ∃ v, e = .returned v ∧ Row w' 33 1 v 1 (ocells [16]) ∧ Below w.heap.size w w') := by
  refine ⟨k0S, k1S, k2S, k3S, k4S, kN, fun own w p g => kA, fun own w p g => kB, fun own w p g => kC, fun own w p g => kD, fun own w p g h => ?_, fun own w p g h => ?_⟩
  · refine (form_any own w p k4S g h k4_wf k4_q).mono ?_
    rintro e w' ⟨v, rfl, hr, -, hb⟩
    obtain ⟨b, c, rfl, h1, h2⟩ := form_cells (formL k4S) k4_len k4_at hr
    exact ⟨b, c, rfl, h1, h2, hb⟩
  · refine (Reached_any own w p k4S g h k4_wf).mono ?_
    rintro e w' ⟨v, rfl, hr, -, hb⟩
    rw [k4_reach] at hr
    exact ⟨v, rfl, hr, hb⟩

set_option maxRecDepth 100000 in
set_option maxHeartbeats 4000000 in
theorem works_any (w : World) : Calls Try.prog 5 #[] w fun e w' => e = .returned (.bool true) ∧ Below w.heap.size w w' := by
  obtain ⟨s0, s1, s2, s3, s4, cN, cA, cB, cC, cD, cF, cR⟩ := kPack
  have HN := Lib.hid cN
  have HA := Lib.hid cA
  have HB := Lib.hid cB
  have HC := Lib.hid cC
  have HD := Lib.hid cD
  have HF := Lib.hid cF
  have HR := Lib.hid cR
  clear cN cA cB cC cD cF cR
  go_enter Try.func5, Try.ntmps5
  go_wp2_with (first
    | (go_at_call 6; refine (HN.out _).mono ?_; rintro e w1 ⟨p, o1, g1, rfl, hr, hf⟩; have R1 := Lib.hid (And.intro hr hf); clear hr hf)
    | (go_at_call 7; refine (HA.out _ _ _ _ R1.out.1).mono ?_; rintro e w2 ⟨rfl, hr, hf⟩; have R2 := Lib.hid (And.intro hr (R1.out.2.trans hf)); clear hr hf)
    | (go_at_call 8; first
        | (refine (HC.out _ _ _ _ R3.out.1).mono ?_; rintro e w4 ⟨rfl, hr, hf⟩; have R4 := Lib.hid (And.intro hr (R3.out.2.trans hf)); clear hr hf)
        | (refine (HB.out _ _ _ _ R2.out.1).mono ?_; rintro e w3 ⟨rfl, hr, hf⟩; have R3 := Lib.hid (And.intro hr (R2.out.2.trans hf)); clear hr hf))
    | (go_at_call 9; refine (HD.out _ _ _ _ R4.out.1).mono ?_; rintro e w5 ⟨rfl, o5, g5, hr, hf⟩; have R5 := Lib.hid (And.intro hr (R4.out.2.trans hf)); clear hr hf)
    | (go_at_call 10; refine (HF.out _ _ _ _ R5.out.1).mono ?_; rintro e w6 ⟨b, c, rfl, hbl, h9, hb⟩; have R6 := Lib.hid (And.intro hb (And.intro hbl h9)); clear hbl h9 hb)
    | (go_at_call 18; refine (HR.out _ _ _ _ (R5.out.1.below R6.out.1 (Nat.le_refl _))).mono ?_; rintro e w7 ⟨v, rfl, hr, hb⟩; have R7 := Lib.hid (And.intro hb hr); clear hb hr)
    | (go_at_call 19; refine (sameOops_any _ _ _ [16] [16] (R7.out.2.kept fun k e => Below.heap_alloc _ _ _ (R7.out.2.lt k e)) (one_row w7 16) (by simp)).mono ?_; rintro e w8 ⟨rfl, hb⟩
       have h68 : Below w6.heap.size w6 w8 := R7.out.1.trans ((((Below.refl _ _).alloc (Nat.le_refl _) _).trans (hb.mono (by simp))).mono R7.out.1.size)
       obtain ⟨c0, c1, c2, c3, c4, c5, c6, c7, c8⟩ := R6.out.2.2.below R6.out.2.1 h68
       have R8 := Lib.hid h68; clear hb h68))
  go_ret
  refine ⟨rfl, ?_⟩
  have h56 := (R5.out.2.below (Nat.le_refl _) (fun _ _ => rfl))
  exact h56.trans ((R6.out.1.trans (R8.out.mono R6.out.1.size)).mono h56.size)
end Go.Proofs.Ytklbgccfcfldaaa.Wk
set_option linter.unusedVariables false
namespace Go.Proofs.Ytklbgccfcfldaaa.Wk
open Go.ChangeShapes Go.WideShapes Go.ChangeAt Go.RowKit Go.Shelf M

abbrev ptr (p : Nat) : Value := .pointer (some ⟨p, 0, none⟩)
/-- The two forms are not the same. -/
def Chg (sF s' : Hp) : Prop := ∀ own w p1 p2 g1 g2, Rep own w p1 sF g1 → Rep own w p2 s' g2 → Calls Try.prog 12 #[ptr p1, ptr p2] w fun e w' => e = .returned (.bool false) ∧ Below w.heap.size w w'
structure TxP (c : Int) (n m : Nat) (f t : Nat → Int) where
  s0 : Hp
  s1 : Hp
  s2 : Hp
  L : Nat → Hp
  Bt : Nat → Hp
  b : Int
  v : Nat → Int
  y : Nat → Int
  new : ∀ own w, Owns own w → Calls Try.prog 6 #[szV 4096 64 64 0 0] w fun e w' => ∃ p own' g, e = .returned (.tuple #[ptr p, .int .i64 0]) ∧ Rep own' w' p s0 g ∧ Fr p own w own' w' noE ∧ w.heap.size ≤ p
  al1 : ∀ own w p g, Rep own w p s0 g → Calls Try.prog 7 #[ptr p, .int .u8 1, .int .i64 c, .int .u8 1, .int .i64 ((n : Int) + 1)] w fun e w' => e = .returned (.tuple #[.int .u64 16, .int .i64 0]) ∧ Rep own w' p s1 g ∧ Fr p own w own w' noE
  al2 : ∀ own w p g, Rep own w p s1 g → Calls Try.prog 7 #[ptr p, .int .u8 1, .int .i64 1, .int .u8 5, .int .i64 m] w fun e w' => e = .returned (.tuple #[.int .u64 b, .int .i64 0]) ∧ Rep own w' p s2 g ∧ Fr p own w own w' noE
  psh : ∀ own w p g, Rep own w p s2 g → Calls Try.prog 9 #[ptr p, .int .u64 16] w fun e w' => e = .returned (.tuple #[.int .i64 0, .int .i64 0]) ∧ ∃ own' g', Rep own' w' p (L 0) g' ∧ Fr p own w own' w' noE
  slo : ∀ own w p g k, k < n → Rep own w p (L k) g → Calls Try.prog 8 #[ptr p, .int .u64 16, .int .i64 (k : Int), .int .u64 (f k)] w (Done own w p (L (k + 1)) g)
  lst : ∀ own w p g, Rep own w p (L n) g → Calls Try.prog 8 #[ptr p, .int .u64 16, .int .i64 (n : Int), .int .u64 b] w (Done own w p (Bt 0) g)
  byt : ∀ own w p g k, k < m → Rep own w p (Bt k) g → Calls Try.prog 13 #[ptr p, .int .u64 b, .int .i64 (k : Int), .int .u8 (t k)] w (Done own w p (Bt (k + 1)) g)
  sam : ∀ own w p1 p2 g1 g2, Rep own w p1 (Bt m) g1 → Rep own w p2 (Bt m) g2 → Calls Try.prog 12 #[ptr p1, ptr p2] w fun e w' => e = .returned (.bool true) ∧ Below w.heap.size w w'
  rot : ∀ own w p g, Rep own w p (Bt m) g → Calls Try.prog 14 #[ptr p, .int .i64 0] w fun e w' => e = .returned (.tuple #[.int .u64 16, .int .i64 0]) ∧ w = w'
  sll : ∀ own w p g, Rep own w p (Bt m) g → Calls Try.prog 15 #[ptr p, .int .u64 16, .int .i64 (n : Int)] w fun e w' => e = .returned (.tuple #[.int .u64 b, .int .i64 0]) ∧ Below w.heap.size w w'
  slk : ∀ own w p g k, k < n → Rep own w p (Bt m) g → Calls Try.prog 15 #[ptr p, .int .u64 16, .int .i64 (k : Int)] w fun e w' => e = .returned (.tuple #[.int .u64 (v k), .int .i64 0]) ∧ Below w.heap.size w w'
  vb : ∀ k, k < n → (0 ≤ v k ∧ v k ≤ 18446744073709551615) ∧ v k % 8 = 1
  bb : (0 ≤ b ∧ b ≤ 18446744073709551615) ∧ b % 8 = 0
  ch1 : ∀ k x, k < n → (0 ≤ x ∧ x ≤ 18446744073709551615) → x % 8 = 1 → v k ≠ x → ∃ s', (∀ own w p g, Rep own w p (Bt m) g → Calls Try.prog 8 #[ptr p, .int .u64 16, .int .i64 (k : Int), .int .u64 x] w (Done own w p s' g)) ∧ Chg (Bt m) s'
  ch2 : ∃ s', (∀ own w p g, Rep own w p (Bt m) g → Calls Try.prog 8 #[ptr p, .int .u64 16, .int .i64 (n : Int), .int .u64 16] w (Done own w p s' g)) ∧ Chg (Bt m) s'
  byk : ∀ own w p g k, k < m → Rep own w p (Bt m) g → Calls Try.prog 16 #[ptr p, .int .u64 b, .int .i64 (k : Int)] w fun e w' => e = .returned (.tuple #[.int .u8 (y k), .int .i64 0]) ∧ Below w.heap.size w w'
  yb : ∀ k, 0 ≤ y k ∧ y k ≤ 255
  ch3 : ∀ k x, k < m → (0 ≤ x ∧ x ≤ 255) → y k ≠ x → ∃ s', (∀ own w p g, Rep own w p (Bt m) g → Calls Try.prog 13 #[ptr p, .int .u64 b, .int .i64 (k : Int), .int .u8 x] w (Done own w p s' g)) ∧ Chg (Bt m) s'
  ch4 : ∃ s', (∀ own w p g, Rep own w p (Bt m) g → Calls Try.prog 17 #[ptr p, .int .u64 16, .int .i64 (c + 1)] w (Done own w p s' g)) ∧ Chg (Bt m) s'

section
variable {c : Int} {n m : Nat} {f t : Nat → Int}
theorem chg_of {s s' : Hp} (h1 : Wf s) (h2 : Wf s') (q1 : s.queue = []) (q2 : s'.queue = []) (hne : formL s ≠ formL s') : Chg s s' := fun own w p1 p2 g1 g2 r1 r2 => by
  have := same_any own w p1 p2 s s' g1 g2 r1 r2 h1 h2 (by rw [q1]; simp) (by rw [q2]; simp)
  rw [show (formL s == formL s') = false from by simpa using hne] at this
  exact this
theorem tl_slot {s : Hp} (h : Tl s c n m) (i : Nat) (hi : i ≤ n) (v : Int) (hv : 0 ≤ v ∧ v ≤ 18446744073709551615) (hok : okV s v = true) (own : Own) (w : World) (p : Nat) (g : Gh) (hr : Rep own w p s g) :
    Calls Try.prog 8 #[ptr p, .int .u64 16, .int .i64 (i : Int), .int .u64 v] w (Done own w p (setSlotS s 2 i v) g) := by
  have e2 : atO 16 = 2 := h.is2.2
  have := setSlot_y own w p s g hr h.wf 16 (by omega) (by omega) h.is2.1 i (by rw [e2, h.o2]; omega) (fun e => by rw [e2, h.f2] at e; cases e) v hv.1 hv.2 hok (.inr h.young)
  rw [e2] at this
  exact this
theorem ok_num (s : Hp) (v : Int) (h : v % 8 = 1) : okV s v = true := by
  unfold okV; rw [(tag1 v).2 h]; simp
theorem txP (hc : 0 ≤ c ∧ c ≤ 4094) (hn : n ≤ 1000) (hm : m ≤ 1000) (hf : ∀ i, (0 ≤ f i ∧ f i ≤ 18446744073709551615) ∧ f i % 8 = 1) (ht : ∀ i, 0 ≤ t i ∧ t i ≤ 255) : Nonempty (TxP c n m f t) := by
  have hc5 : 0 ≤ c ∧ c ≤ 4095 := by omega
  have h3 : Tl (e3S c n m) c n m := e3_tl hc5 hn hm
  have hF := tx_fl hc5 hn hm f t hf ht
  have hlay := fun k (hk : k ≤ n) => (lay_tl h3 f hf k hk).1
  have hby := fun k (hk : k ≤ m) => by_fl (lay_fl h3 f hf) t ht k hk
  have hbb : 0 ≤ (8 * ((n + 5 : Nat) : Int)) ∧ (8 * ((n + 5 : Nat) : Int)) ≤ 18446744073709551615 := by omega
  have hbl := hF.last
  refine ⟨{
    s0 := e0S, s1 := e1S c n, s2 := e2S c n m, L := layS (e3S c n m) f, Bt := byS (setSlotS (layS (e3S c n m) f n) 2 n (8 * ((n + 5 : Nat) : Int))) (n + 5) t
    b := 8 * ((n + 5 : Nat) : Int), v := fun k => (txS c n m f t).mem (4 + k), y := byteV (txS c n m f t) (n + 5)
    new := fun own w ho => (new_y own 4096 64 64 0 0 sz0 w ho).mono (by rintro e w' ⟨p, own', g, rfl, ⟨a, b⟩, d, -⟩; exact ⟨p, own', g, rfl, a, b, d⟩)
    al1 := fun own w p g h => ?_
    al2 := fun own w p g h => ?_
    psh := fun own w p g h => ?_
    slo := fun own w p g k hk h => tl_slot (hlay k (by omega)) k (by omega) (f k) (hf k).1 (ok_num _ _ (hf k).2) own w p g h
    lst := fun own w p g h => tl_slot (hlay n (Nat.le_refl _)) n (Nat.le_refl _) _ hbb (by unfold okV; rw [(hlay n (Nat.le_refl _)).isb.1]; simp) own w p g h
    byt := fun own w p g k hk h => ?_
    sam := fun own w p1 p2 g1 g2 r1 r2 => ?_
    rot := fun own w p g h => ?_
    sll := fun own w p g h => ?_
    slk := fun own w p g k hk h => ?_
    vb := fun k hk => ⟨hF.tl.wf.mem _, hF.nos k hk⟩
    bb := ⟨hbb, by omega⟩
    ch1 := fun k x hk hx h8 hne => ⟨_, fun own w p g h => tl_slot hF.tl k (by omega) x hx (ok_num _ _ h8) own w p g h, chg_of hF.tl.wf (hF.tl.slot k (by omega) x hx).wf hF.tl.queue (hF.tl.slot k (by omega) x hx).queue (hF.setk k hk x hx h8 hne)⟩
    ch2 := ⟨_, fun own w p g h => tl_slot hF.tl n (Nat.le_refl _) 16 (by omega) (by unfold okV; rw [hF.tl.is2.1]; simp) own w p g h, chg_of hF.tl.wf (hF.tl.slot n (Nat.le_refl _) 16 (by omega)).wf hF.tl.queue (hF.tl.slot n (Nat.le_refl _) 16 (by omega)).queue hF.setl⟩
    byk := fun own w p g k hk h => ?_
    yb := fun k => by unfold byteV; omega
    ch3 := fun k x hk hx hne => ⟨setByteS (txS c n m f t) (n + 5) k x, fun own w p g h => ?_, chg_of hF.tl.wf (hF.byte k hk x hx).tl.wf hF.tl.queue (hF.byte k hk x hx).tl.queue (hF.setb k hk x hx hne)⟩
    ch4 := ⟨_, fun own w p g h => ?_, chg_of hF.tl.wf (hF.tl.klass (c + 1) (by omega)).wf hF.tl.queue (hF.tl.klass (c + 1) (by omega)).queue (hF.setc (by omega))⟩ }⟩
  · have := alloc_fit own w p e0S g h 1 (.inl rfl) c 1 (n + 1) (by omega) (by omega) (hd1 hc5 hn) (fit1 hc5 hn) (fun e => by omega)
    rw [e0_ar, show ((n + 1 : Nat) : Int) = (n : Int) + 1 from by omega] at this
    exact this
  · have := allocB_fit own w p (e1S c n) g h 1 (.inl rfl) 1 m (by omega) (hd5 hm) (fit2 hc5 hn hm) (fun e => by omega)
    rw [e1_ar] at this
    exact this
  · have hwp := e2_wf (n := n) (m := m) hc5 hn hm
    have hst := (e2_mem (n := n) (m := m) hc5 hn hm).2.2.1
    have := push_y own w p (e2S c n m) g h 16 (by omega) (by unfold okV; rw [show isOb (e2S c n m) 16 = true from (isOb_mk hwp hst).1]; simp) (by rw [e2_roots.2.2.1]; simp)
    rw [e2_roots.2.2.1] at this
    exact this
  · have hB := (hby k (by omega)).tl
    have := setByte_y own w p _ g h hB.wf (8 * ((n + 5 : Nat) : Int)) (by omega) (by omega) hB.isb.1 k (by rw [hB.isb.2, hB.nbb]; exact hk) (t k) (ht k).1 (ht k).2
    rw [hB.isb.2] at this
    exact this
  · have := same_any own w p1 p2 _ _ g1 g2 r1 r2 hF.tl.wf hF.tl.wf (by rw [show (byS (setSlotS (layS (e3S c n m) f n) 2 n (8 * ((n + 5 : Nat) : Int))) (n + 5) t m).queue = [] from hF.tl.queue]; simp) (by rw [show (byS (setSlotS (layS (e3S c n m) f n) 2 n (8 * ((n + 5 : Nat) : Int))) (n + 5) t m).queue = [] from hF.tl.queue]; simp)
    rw [beq_self_eq_true] at this
    exact this
  · have hs : (byS (setSlotS (layS (e3S c n m) f n) 2 n (8 * ((n + 5 : Nat) : Int))) (n + 5) t m).stack = [16] := hF.tl.stack
    have := root_y own w p _ g h 0 (by rw [hs]; simp)
    rw [hs] at this
    exact this
  · have e2 : atO 16 = 2 := hF.tl.is2.2
    have := slot_y own w p (txS c n m f t) g h hF.tl.wf 16 (by omega) (by omega) hF.tl.is2.1 n (by rw [e2, hF.tl.o2]; omega)
    rw [e2, show 2 + 2 + n = 4 + n from by omega, hbl] at this
    exact this
  · have e2 : atO 16 = 2 := hF.tl.is2.2
    have := slot_y own w p (txS c n m f t) g h hF.tl.wf 16 (by omega) (by omega) hF.tl.is2.1 k (by rw [e2, hF.tl.o2]; omega)
    rw [e2, show 2 + 2 + k = 4 + k from by omega] at this
    exact this
  · have := byte_y own w p (txS c n m f t) g h hF.tl.wf (8 * ((n + 5 : Nat) : Int)) (by omega) (by omega) hF.tl.isb.1 k (by rw [hF.tl.isb.2, hF.tl.nbb]; exact hk)
    rw [hF.tl.isb.2] at this
    exact this
  · have := setByte_y own w p (txS c n m f t) g h hF.tl.wf (8 * ((n + 5 : Nat) : Int)) (by omega) (by omega) hF.tl.isb.1 k (by rw [hF.tl.isb.2, hF.tl.nbb]; exact hk) x hx.1 hx.2
    rw [hF.tl.isb.2] at this
    exact this
  · have e2 : atO 16 = 2 := hF.tl.is2.2
    have := setClass_y own w p (txS c n m f t) g h hF.tl.wf 16 (by omega) (by omega) hF.tl.is2.1 (c + 1) (by omega) (by omega)
    rw [e2] at this
    exact this
end
end Go.Proofs.Ytklbgccfcfldaaa.Wk
set_option linter.unusedVariables false
namespace Go.Proofs.Ytklbgccfcfldaaa.Wk
open Go.ChangeShapes Go.WideShapes Go.ChangeAt Go.RowKit Go.Shelf M

/-- A block that no heap owns may change. -/
theorem Rep.setFree {own : Own} {w : World} {p : Nat} {s : Hp} {g : Gh} (h : Rep own w p s g) {b o : Nat} (hb : own b = none) (v : Value) : Rep own (w.setCell ⟨b, o, none⟩ v) p s g :=
  h.kept (fun k hk => by rw [size_setc]; exact h.owns k hk) (More.refl _) fun k l e _ => blk_set_other _ _ _ _ _ (fun q => by rw [q, hb] at e; cases e)
/-- The heaps made so far, in their array at bh. -/
structure Hs (sF : Hp) (w : World) (bh i : Nat) (own : Own) (wr : World) : Prop where
  owns : Owns own wr
  low : ∀ k, k < w.heap.size → own k = none
  free : own bh = none
  ge : w.heap.size ≤ bh
  below : Below w.heap.size w wr
  c0 : i = 0 → wr.heap[bh]? = some (.cells #[.pointer none, .pointer none] 48 (0, 0))
  c1 : i = 1 → ∃ p g, wr.heap[bh]? = some (.cells #[ptr p, .pointer none] 48 (0, 0)) ∧ Rep own wr p sF g
  c2 : i = 2 → ∃ p q g g', wr.heap[bh]? = some (.cells #[ptr p, ptr q] 48 (0, 0)) ∧ p ≠ q ∧ Rep own wr p sF g ∧ Rep own wr q sF g'
/-- A heap under way, made since the world w1. -/
structure Go1 (w1 : World) (own1 : Own) (p : Nat) (s : Hp) (own : Own) (g : Gh) (wr : World) : Prop where
  rep : Rep own wr p s g
  fr : Fr p own1 w1 own wr noE
  new : w1.heap.size ≤ p
theorem Go1.step {w1 : World} {own1 own own' : Own} {p : Nat} {s s' : Hp} {g g' : Gh} {wr w' : World} (h : Go1 w1 own1 p s own g wr) (hr : Rep own' w' p s' g') (hf : Fr p own wr own' w' noE) : Go1 w1 own1 p s' own' g' w' := ⟨hr, h.fr.trans hf, h.new⟩
theorem Go1.below {w1 : World} {own1 own : Own} {p : Nat} {s : Hp} {g : Gh} {wr w' : World} (h : Go1 w1 own1 p s own g wr) (hb : Below wr.heap.size wr w') : Go1 w1 own1 p s own g w' := ⟨h.rep.below hb (Nat.le_refl _), h.fr.trans (Fr.of_below hb (Nat.le_refl _) _), h.new⟩
theorem Hs.kept {sF s : Hp} {w : World} {bh i : Nat} {own1 own : Own} {w1 wr : World} {p : Nat} {g : Gh} (h : Hs sF w bh i own1 w1) (hb : bh < w1.heap.size) (k : Go1 w1 own1 p s own g wr) : Hs sF w bh i own wr := by
  have hbh : wr.heap[bh]? = w1.heap[bh]? := k.fr.kept bh hb (fun l e => by rw [h.free] at e; cases e) (fun q => q)
  have hl : ∀ j, j < w.heap.size → own j = none := fun j hj => (k.fr.old j (Nat.lt_of_lt_of_le hj h.below.size)).trans (h.low j hj)
  have hrep : ∀ q g', Rep own1 w1 q sF g' → Rep own wr q sF g' := fun q g' hq => hq.other k.fr k.rep.owns (by have := blk_lt hq.hcell; have := k.new; omega) (fun _ x => x.elim)
  refine ⟨k.rep.owns, hl, (k.fr.old bh hb).trans h.free, h.ge, h.below.trans (k.fr.below h.below.size h.low), fun e => hbh.trans (h.c0 e), fun e => ?_, fun e => ?_⟩
  · obtain ⟨q, g', a, b⟩ := h.c1 e
    exact ⟨q, g', hbh.trans a, hrep q g' b⟩
  · obtain ⟨q, q', g1, g2, a, d, b1, b2⟩ := h.c2 e
    exact ⟨q, q', g1, g2, hbh.trans a, d, hrep q g1 b1, hrep q' g2 b2⟩
theorem Hs.put0 {sF : Hp} {w : World} {bh : Nat} {own1 own : Own} {w1 wr : World} {p : Nat} {g : Gh} (h : Hs sF w bh 0 own1 w1) (hb : bh < w1.heap.size) (k : Go1 w1 own1 p sF own g wr) : Hs sF w bh 1 own (wr.setCell ⟨bh, 0, none⟩ (ptr p)) := by
  have h2 := h.kept hb k
  refine ⟨fun j hj => by rw [size_setc]; exact h2.owns j hj, h2.low, h2.free, h2.ge, h2.below.setCell (p := ⟨bh, 0, none⟩) h2.ge _, fun e => by omega, fun _ => ⟨p, g, ?_, k.rep.setFree h2.free _⟩, fun e => by omega⟩
  rw [blk_set (h2.c0 rfl) 0 (ptr p)]; rfl
theorem Hs.put1 {sF : Hp} {w : World} {bh : Nat} {own1 own : Own} {w1 wr : World} {p : Nat} {g : Gh} (h : Hs sF w bh 1 own1 w1) (hb : bh < w1.heap.size) (k : Go1 w1 own1 p sF own g wr) : Hs sF w bh 2 own (wr.setCell ⟨bh, 1, none⟩ (ptr p)) := by
  have h2 := h.kept hb k
  obtain ⟨q, g', a, b⟩ := h2.c1 rfl
  obtain ⟨q0, g0, a0, b0⟩ := h.c1 rfl
  have hq : q0 = q := by
    have hbh : wr.heap[bh]? = w1.heap[bh]? := k.fr.kept bh hb (fun l e => by rw [h.free] at e; cases e) (fun q => q)
    rw [hbh, a0] at a
    injection a with a; injection a with a _ _; injection a with a; injection a with a _; injection a with a; injection a with a; injection a with a _
  have hne : q ≠ p := by have := blk_lt b0.hcell; have := k.new; omega
  refine ⟨fun j hj => by rw [size_setc]; exact h2.owns j hj, h2.low, h2.free, h2.ge, h2.below.setCell (p := ⟨bh, 1, none⟩) h2.ge _, fun e => by omega, fun e => by omega, fun _ => ⟨q, p, g', g, ?_, hne, b.setFree h2.free _, k.rep.setFree h2.free _⟩⟩
  rw [blk_set a 1 (ptr p)]; rfl
theorem Hs.belo {sF : Hp} {w : World} {bh i : Nat} {own : Own} {wr w' : World} (h : Hs sF w bh i own wr) (hbh : bh < wr.heap.size) (hb : Below wr.heap.size wr w') : Hs sF w bh i own w' := by
  have e := hb.block bh hbh
  refine ⟨h.owns.mono hb.size, h.low, h.free, h.ge, h.below.trans (hb.mono h.below.size), fun q => e.trans (h.c0 q), fun q => ?_, fun q => ?_⟩
  · obtain ⟨p, g, a, b⟩ := h.c1 q
    exact ⟨p, g, e.trans a, b.below hb (Nat.le_refl _)⟩
  · obtain ⟨p, p', g, g', a, d, b1, b2⟩ := h.c2 q
    exact ⟨p, p', g, g', e.trans a, d, b1.below hb (Nat.le_refl _), b2.below hb (Nat.le_refl _)⟩

/-- Both heaps stand; the second one may have been changed. -/
structure H2 (sF s' : Hp) (w : World) (bh p q : Nat) (own : Own) (g g' : Gh) (wr : World) : Prop where
  low : ∀ k, k < w.heap.size → own k = none
  free : own bh = none
  below : Below w.heap.size w wr
  cell : wr.heap[bh]? = some (.cells #[ptr p, ptr q] 48 (0, 0))
  ne : p ≠ q
  rp : Rep own wr p sF g
  rq : Rep own wr q s' g'
theorem H2.belo {sF s' : Hp} {w : World} {bh p q : Nat} {own : Own} {g g' : Gh} {wr w' : World} (h : H2 sF s' w bh p q own g g' wr) (hb : Below wr.heap.size wr w') : H2 sF s' w bh p q own g g' w' :=
  ⟨h.low, h.free, h.below.trans (hb.mono h.below.size), (hb.block _ (blk_lt h.cell)).trans h.cell, h.ne, h.rp.below hb (Nat.le_refl _), h.rq.below hb (Nat.le_refl _)⟩
theorem H2.done {sF s1 s' : Hp} {w : World} {bh p q : Nat} {own : Own} {g g' : Gh} {wr w' : World} (h : H2 sF s1 w bh p q own g g' wr) (hr : Rep own w' q s' g') (hf : Fr q own wr own w' noE) : H2 sF s' w bh p q own g g' w' :=
  ⟨h.low, h.free, h.below.trans (hf.below h.below.size h.low), (hf.kept bh (blk_lt h.cell) (fun l e => by rw [h.free] at e; cases e) (fun q => q)).trans h.cell, h.ne, h.rp.other hf hr.owns h.ne (fun _ x => x.elim), hr⟩
theorem H2.cells {sF s' : Hp} {w : World} {bh p q : Nat} {own : Own} {g g' : Gh} {wr : World} (h : H2 sF s' w bh p q own g g' wr) : wr.cell? ⟨bh, 0, none⟩ = some (ptr p) ∧ wr.cell? ⟨bh, 1, none⟩ = some (ptr q) ∧ bh < wr.heap.size := ⟨cell_blk h.cell 0, cell_blk h.cell 1, blk_lt h.cell⟩

set_option maxRecDepth 100000 in
set_option maxHeartbeats 4000000 in
theorem GraphTells_early (c at_ how : Int) (A : Option Addr) (cap n : Nat) (text : ByteArray) (w : World) (hn : n ≤ maxLen) (hm : text.size ≤ maxLen) (h : c < 0 ∨ 4095 ≤ c ∨ 1000 < n ∨ 1000 < text.size) :
    Calls Try.prog 4 #[.int .i64 c, .slice A n cap, .string text, .int .i64 at_, .int .i64 how] w fun e w' => e = .returned (.bool true) ∧ Below w.heap.size w w' := by
  have HW := Lib.hid (works_any w)
  by_cases h1 : c < 0
  · go_enter Try.func4, Try.ntmps4
    go_wp2_with (go_at_call 5; refine HW.out.mono ?_; rintro e w1 ⟨rfl, hb⟩)
    go_ret
    exact ⟨rfl, hb⟩
  · by_cases h2 : 4095 ≤ c
    · go_enter Try.func4, Try.ntmps4
      go_wp2_with (go_at_call 5; refine HW.out.mono ?_; rintro e w1 ⟨rfl, hb⟩)
      go_ret
      exact ⟨rfl, hb⟩
    · by_cases h3 : 1000 < n
      · have i3 : (1000 : Int) < n := by omega
        go_enter Try.func4, Try.ntmps4
        go_wp2_with (go_at_call 5; refine HW.out.mono ?_; rintro e w1 ⟨rfl, hb⟩)
        go_ret
        exact ⟨rfl, hb⟩
      · have i3 : ¬ (1000 : Int) < n := by omega
        have i4 : (1000 : Int) < text.size := by omega
        go_enter Try.func4, Try.ntmps4
        go_wp2_with (go_at_call 5; refine HW.out.mono ?_; rintro e w1 ⟨rfl, hb⟩)
        go_ret
        exact ⟨rfl, hb⟩
end Go.Proofs.Ytklbgccfcfldaaa.Wk
set_option linter.unusedVariables false
namespace Go.Proofs.Ytklbgccfcfldaaa.Wk
open Go.ChangeShapes Go.WideShapes Go.ChangeAt Go.RowKit Go.Shelf M

theorem add_block (a : Addr) (j : Nat) : (a.add j).block = a.block := by unfold Addr.add; split <;> rfl
theorem cell_below {w wr : World} {a : Addr} (hb : Below w.heap.size w wr) (ha : a.block < w.heap.size) (j : Nat) : wr.cell? (a.add j) = w.cell? (a.add j) := by
  have h1 := hb.block a.block ha
  unfold World.cell?
  rw [add_block, h1]
def fS (xs : List Int) (k : Nat) : Int := IntKind.u64.wrap (8 * Int.tmod (xs.getD k 0) 1000 + 1)
theorem fS_bd (xs : List Int) (k : Nat) : (0 ≤ fS xs k ∧ fS xs k ≤ 18446744073709551615) ∧ fS xs k % 8 = 1 := by
  unfold fS
  generalize Int.tmod (xs.getD k 0) 1000 = q
  rw [IntKind.wrap_u64]; omega
def tS (text : ByteArray) (k : Nat) : Int := ((text.data.toList.getD k 0).toNat : Int)
theorem tS_bd (text : ByteArray) (k : Nat) : 0 ≤ tS text k ∧ tS text k ≤ 255 := by
  unfold tS
  have := (text.data.toList.getD k 0).toNat_lt
  omega

theorem xor8 (v : Int) (h : 0 ≤ v ∧ v ≤ 18446744073709551615) : (0 ≤ bits .xor .u64 v 8 ∧ bits .xor .u64 v 8 ≤ 18446744073709551615) ∧ bits .xor .u64 v 8 % 8 = v % 8 ∧ v ≠ bits .xor .u64 v 8 := by
  rw [u64_xor v 8 h.1 (by omega) (by omega) (by omega)]
  obtain ⟨V, rfl⟩ := Int.eq_ofNat_of_zero_le h.1
  have h1 : V ^^^ 8 < 2 ^ 64 := Nat.xor_lt_two_pow (by omega) (by omega)
  have h2 : (V ^^^ 8) % 2 ^ 3 = V % 2 ^ 3 := by rw [Nat.xor_mod_two_pow]; simp
  have h3 : V ≠ V ^^^ 8 := fun e => by
    have e2 : (V ^^^ 8).testBit 3 = V.testBit 3 := by rw [← e]
    rw [Nat.testBit_xor] at e2
    have e3 : Nat.testBit 8 3 = true := by decide
    rw [e3] at e2
    cases hb : V.testBit 3 <;> simp [hb] at e2
  have e4 : (8 : Int).toNat = 8 := rfl
  rw [e4]
  simp only [Int.toNat_natCast]
  refine ⟨by omega, by omega, fun e => h3 (by omega)⟩
theorem xor1 (y : Int) (h : 0 ≤ y ∧ y ≤ 255) : (0 ≤ bits .xor .u8 y 1 ∧ bits .xor .u8 y 1 ≤ 255) ∧ y ≠ bits .xor .u8 y 1 := by
  rw [u8_xor y 1 h.1 (by omega) (by omega) (by omega)]
  obtain ⟨V, rfl⟩ := Int.eq_ofNat_of_zero_le h.1
  have h1 : V ^^^ 1 < 2 ^ 8 := Nat.xor_lt_two_pow (by omega) (by omega)
  have h3 : V ≠ V ^^^ 1 := fun e => by
    have e2 : (V ^^^ 1).testBit 0 = V.testBit 0 := by rw [← e]
    rw [Nat.testBit_xor] at e2
    have e3 : Nat.testBit 1 0 = true := by decide
    rw [e3] at e2
    cases hb : V.testBit 0 <;> simp [hb] at e2
  have e4 : (1 : Int).toNat = 1 := rfl
  rw [e4]
  simp only [Int.toNat_natCast]
  refine ⟨by omega, fun e => h3 (by omega)⟩
theorem rem_nat (a : Int) (k : Int) (h : 0 ≤ a) (hk : 0 < k) : ∃ j : Nat, a.tmod k = (j : Int) ∧ (j : Int) < k := by
  refine ⟨(a.tmod k).toNat, ?_, ?_⟩
  · rw [Int.tmod_eq_emod_of_nonneg h]; have := Int.emod_nonneg a (show k ≠ 0 by omega); omega
  · rw [Int.tmod_eq_emod_of_nonneg h]; have := Int.emod_nonneg a (show k ≠ 0 by omega); have := Int.emod_lt_of_pos a hk; omega
theorem tS_at (text : ByteArray) (l : Nat) (h : l < text.size) : tS text l = (text[l].toNat : Int) := by
  unfold tS
  have : text.data.toList[l]? = some text[l] := by
    rw [Array.getElem?_toList]
    exact Array.getElem?_eq_getElem h
  rw [List.getD_eq_getElem?_getD, this]; rfl
set_option maxRecDepth 100000 in
set_option maxHeartbeats 4000000 in
theorem GraphTells_main (c at_ how : Int) (A : Option Addr) (cap : Nat) (xs : List Int) (text : ByteArray) (w : World) (hc : 0 ≤ c ∧ c ≤ 4094) (hn : xs.length ≤ 1000) (hm : text.size ≤ 1000)
    (hx : ∀ j x, xs[j]? = some x → (∃ a, A = some a ∧ a.block < w.heap.size ∧ w.cell? (a.add j) = some (.int .i64 x)) ∧ (-9223372036854775808 ≤ x ∧ x ≤ 9223372036854775807))
    (hat : -9223372036854775808 ≤ at_ ∧ at_ ≤ 9223372036854775807) (hhow : -9223372036854775808 ≤ how ∧ how ≤ 9223372036854775807) :
    Calls Try.prog 4 #[.int .i64 c, .slice A xs.length cap, .string text, .int .i64 at_, .int .i64 how] w fun e w' => e = .returned (.bool true) ∧ Below w.heap.size w w' := by
  have HW := Lib.hid (works_any w)
  obtain ⟨n, hnn⟩ : ∃ n, xs.length = n := ⟨_, rfl⟩
  obtain ⟨m, hmm⟩ : ∃ m, text.size = m := ⟨_, rfl⟩
  obtain ⟨X⟩ := txP (f := fS xs) (t := tS text) hc (by rw [hnn] at hn; exact hn) (by rw [hmm] at hm; exact hm) (fS_bd xs) (tS_bd text)
  have HXN := Lib.hid hnn
  have HMM := Lib.hid hmm
  rw [hnn] at hn ⊢
  have HX := Lib.hid hx
  have j0 : ¬ c < 0 := by omega
  have j1 : ¬ 4095 ≤ c := by omega
  have j2 : ¬ (1000 : Int) < n := by omega
  have j3 : ¬ (1000 : Int) < text.size := by omega
  clear hx hnn
  go_enter Try.func4, Try.ntmps4
  go_wp2_with (go_at_call 5; refine HW.out.mono ?_; rintro e w1 ⟨rfl, hb⟩; have HB1 := Lib.hid hb; clear hb)
  have hs0 : Hs (X.Bt m) w w1.heap.size 0 (fun _ => none) (w1.alloc (.cells #[.pointer none, .pointer none] 48)) :=
    ⟨fun k hk => absurd rfl hk, fun _ _ => rfl, rfl, HB1.out.size, HB1.out.alloc HB1.out.size _, fun _ => heap_alloc_new w1 _, fun e => by omega, fun e => by omega⟩
  have hl0 : w1.heap.size < (w1.alloc (.cells #[.pointer none, .pointer none] 48)).heap.size := by simp
  go_loopw [13] (fun iv wr => ∃ (i : Nat) (own : Own), i ≤ 2 ∧ iv = .int .i64 i ∧ Hs (X.Bt m) w w1.heap.size i own wr ∧ w1.heap.size < wr.heap.size) (fun iv _ => 2 - (intOf iv).toNat)
  case atStart => exact ⟨0, _, by omega, rfl, hs0, hl0⟩
  case round =>
    clear hs0 hl0
    obtain ⟨i, own, hi, rfl, hH, hbl⟩ := hrel
    obtain ⟨WO, hWO⟩ : ∃ WO : World, WO = wr := ⟨_, rfl⟩
    subst hWO
    by_cases hi2 : i < 2
    · have hi3 : (i : Int) < 2 := by omega
      have HH := Lib.hid hH
      have hNew := X.new own WO hH.owns
      go_wp2_with (first
        | (go_at_call 6; refine hNew.mono ?_; rintro e w2 ⟨p, o2, g2, rfl, hr, hf, hge⟩; have G2 := Lib.hid (Go1.mk hr hf hge); clear hr hf hge)
        | (go_at_call 7; first
            | (refine (X.al2 _ _ _ _ G3.out.rep).mono ?_; rintro e w4 ⟨rfl, hr, hf⟩; have G4 := Lib.hid (G3.out.step hr hf); clear hr hf)
            | (refine (X.al1 _ _ _ _ G2.out.rep).mono ?_; rintro e w3 ⟨rfl, hr, hf⟩; have G3 := Lib.hid (G2.out.step hr hf); clear hr hf))
        | (go_at_call 9; refine (X.psh _ _ _ _ G4.out.rep).mono ?_; rintro e w5 ⟨rfl, o5, g5, hr, hf⟩; have G5 := Lib.hid (G4.out.step hr hf); clear hr hf))
      go_loopw [20] (fun kv w6 => ∃ (k : Nat) (own2 : Own) (g : Gh), k ≤ n ∧ kv = .int .i64 k ∧ Go1 WO own p (X.L k) own2 g w6) (fun kv _ => n - (intOf kv).toNat)
      case atStart => exact ⟨0, o5, g5, Nat.zero_le _, rfl, G5.out⟩
      case round =>
        obtain ⟨k, own2, g, hk, rfl, hG⟩ := hrel
        by_cases hkn : k < n
        · have hkn2 : (k : Int) < n := by omega
          obtain ⟨x, hxk⟩ : ∃ x, xs[k]? = some x := ⟨xs[k]'(by rw [HXN.out]; exact hkn), by simp⟩
          obtain ⟨⟨a, hA, hab, hcell⟩, hxb⟩ := HX.out k x hxk
          subst hA
          have hbw := (HH.out.kept hbl hG).below
          have hcell2 := (cell_below hbw hab k).trans hcell
          have hq1 := Int.tmod_lt_of_pos x (show (0 : Int) < 1000 by omega)
          have hq2 := Int.lt_tmod_of_pos x (show (0 : Int) < 1000 by omega)
          have hfk : fS xs k = IntKind.u64.wrap (8 * Int.tmod x 1000 + 1) := by unfold fS; rw [List.getD_eq_getElem?_getD, hxk]; rfl
          have hS := X.slo own2 wr p g k hkn hG.rep
          rw [hfk] at hS
          have HS := Lib.hid hS
          have HG := Lib.hid hG
          clear hfk hS hG hcell hxk hbw
          go_wp2_with (go_at_call 8; refine HS.out.mono ?_; rintro e w7 ⟨rfl, hr, hf⟩; have G7 := Lib.hid (HG.out.step hr hf); clear hr hf)
          go_roundw
          case rel => exact ⟨k + 1, own2, g, by omega, by simp, G7.out⟩
          case measure => simp only [intOf]; omega
        · obtain rfl : k = n := by omega
          have hS := X.lst own2 wr p g hG.rep
          have HG := Lib.hid hG
          clear hG
          go_wp2_with (go_at_call 8; refine hS.mono ?_; rintro e w8 ⟨rfl, hr, hf⟩; have G8 := Lib.hid (HG.out.step hr hf); clear hr hf)
          go_loopw [21] (fun kv w9 => ∃ (l : Nat), l ≤ m ∧ kv = .int .i64 l ∧ Go1 WO own p (X.Bt l) own2 g w9) (fun kv _ => m - (intOf kv).toNat)
          case atStart => exact ⟨0, Nat.zero_le _, rfl, G8.out⟩
          case round =>
            obtain ⟨l, hl, rfl, hG9⟩ := hrel
            by_cases hlm : l < m
            · have hlm2 : (l : Int) < text.size := by rw [HMM.out]; omega
              have hlm3 : l < text.size := by rw [HMM.out]; exact hlm
              have hB := X.byt own2 wr p g l hlm hG9.rep
              rw [tS_at text l hlm3] at hB
              have HB := Lib.hid hB
              have HG9 := Lib.hid hG9
              clear hG9 hB
              go_wp2_with (go_at_call 13; refine HB.out.mono ?_; rintro e w7 ⟨rfl, hr, hf⟩; have G7 := Lib.hid (HG9.out.step hr hf); clear hr hf)
              go_roundw
              case rel => exact ⟨l + 1, by omega, by simp, G7.out⟩
              case measure => simp only [intOf]; omega
            · have hle : m = l := by omega
              subst hle
              have hml : ¬ (m : Int) < text.size := by rw [HMM.out]; omega
              have hsz : w1.heap.size < wr.heap.size := Nat.lt_of_lt_of_le hbl hG9.fr.size
              have HS := Lib.hid (HH.out.kept hbl hG9)
              rcases (by omega : i = 0 ∨ i = 1) with rfl | rfl
              · have hP := HH.out.put0 hbl hG9
                have hc0 := HS.out.c0 rfl
                have d0 := cell_blk hc0 0
                have df := frozen_blk hc0
                have HP := Lib.hid hP
                clear hP hc0 hG9
                go_wp2
                go_roundw
                case rel => exact ⟨1, own2, by omega, by simp, HP.out, by rw [size_setc]; exact hsz⟩
                case measure => simp only [intOf]; omega
              · have hP := HH.out.put1 hbl hG9
                obtain ⟨q, g', hc1, -⟩ := HS.out.c1 rfl
                have d0 := cell_blk hc1 1
                have df := frozen_blk hc1
                have HP := Lib.hid hP
                clear hP hc1 hG9
                go_wp2
                go_roundw
                case rel => exact ⟨2, own2, by omega, by simp, HP.out, by rw [size_setc]; exact hsz⟩
                case measure => simp only [intOf]; omega
    · obtain rfl : i = 2 := by omega
      obtain ⟨p, q, g, g', hc, hpq, hrp, hrq⟩ := hH.c2 rfl
      have h2 : H2 (X.Bt m) (X.Bt m) w w1.heap.size p q own g g' WO := ⟨hH.low, hH.free, hH.below, hc, hpq, hrp, hrq⟩
      have hS := X.sam own WO p q g g' hrp hrq
      obtain ⟨d0, d1, dl⟩ := h2.cells
      have HH2 := Lib.hid h2
      clear hc hpq hrp hrq hH h2
      obtain ⟨a0, ha0⟩ : ∃ a0, a0 = if at_ < 0 then -(at_ + 1) else at_ := ⟨_, rfl⟩
      have a0b : 0 ≤ a0 ∧ a0 ≤ 9223372036854775807 := by rw [ha0]; split <;> omega
      have HA := Lib.hid ha0
      clear ha0
      go_upto_if 138 with (go_at_call 12; refine hS.mono ?_; rintro e w3 ⟨rfl, hb3⟩; have H3 := Lib.hid (HH2.out.belo hb3); clear hb3)
      go_cut [3] from 139 (fun v wx => v = .int .i64 a0 ∧ w3 = wx)
      case first =>
        by_cases hneg : at_ < 0
        · have hA := HA.out
          rw [if_pos hneg] at hA
          clear HA
          have hA2 : -(at_ + 1) = a0 := hA.symm
          clear hA
          go_wp2
          go_meet
          exact ⟨rfl, rfl⟩
        · have hA := HA.out
          rw [if_neg hneg] at hA
          subst hA
          go_wp2
          go_meet
          exact ⟨rfl, rfl⟩
      case rest =>
        obtain ⟨rfl, hwc⟩ := hcut
        subst hwc
        clear HA
        obtain ⟨d0, d1, dl⟩ := H3.out.cells
        have hvb := X.vb
        have hbb := X.bb
        have nz : ¬ ((n : Int) + 1 = 0) := by omega
        obtain ⟨kk, hk1, hk2⟩ := rem_nat a0 ((n : Int) + 1) a0b.1 (by omega)
        by_cases r0 : how.tmod 3 = 0
        · by_cases hkn : kk = n
          · subst hkn
            obtain ⟨s', hs, hC⟩ := X.ch2
            go_wp2_with (first
              | (go_at_call 14; refine (X.rot _ _ _ _ H3.out.rq).mono ?_; rintro e w' ⟨rfl, rfl⟩)
              | (go_at_call 15; first
                  | (refine (X.sll _ _ _ _ H4.out.rq).mono ?_; rintro e w5 ⟨rfl, hb⟩; have H5 := Lib.hid (H4.out.belo hb); clear hb d0 d1 dl; obtain ⟨d0, d1, dl⟩ := H5.out.cells)
                  | (refine (X.sll _ _ _ _ H3.out.rq).mono ?_; rintro e w4 ⟨rfl, hb⟩; have H4 := Lib.hid (H3.out.belo hb); clear hb d0 d1 dl; obtain ⟨d0, d1, dl⟩ := H4.out.cells))
              | (go_at_call 8; refine (hs _ _ _ _ H5.out.rq).mono ?_; rintro e w6 ⟨rfl, hr, hf⟩; have H6 := Lib.hid (H5.out.done hr hf); clear hr hf d0 d1 dl; obtain ⟨d0, d1, dl⟩ := H6.out.cells)
              | (go_at_call 12; refine (hC _ _ _ _ _ _ H6.out.rp H6.out.rq).mono ?_; rintro e w7 ⟨rfl, hb⟩; have H7 := Lib.hid (H6.out.belo hb); clear hb))
            go_ret
            exact ⟨rfl, H7.out.below⟩
          · have hkn2 : kk < n := by omega
            obtain ⟨hv1, hv2⟩ := hvb kk hkn2
            obtain ⟨q1, q2, q3⟩ := xor8 (X.v kk) hv1
            have hne : ¬ X.v kk = X.b := fun e => by rw [e] at hv2; omega
            obtain ⟨s', hs, hC⟩ := X.ch1 kk (bits .xor .u64 (X.v kk) 8) hkn2 q1 (by rw [q2]; exact hv2) q3
            clear q1 q2 q3
            go_wp2_with (first
              | (go_at_call 14; refine (X.rot _ _ _ _ H3.out.rq).mono ?_; rintro e w' ⟨rfl, rfl⟩)
              | (go_at_call 15; first
                  | (refine (X.slk _ _ _ _ kk hkn2 H4.out.rq).mono ?_; rintro e w5 ⟨rfl, hb⟩; have H5 := Lib.hid (H4.out.belo hb); clear hb d0 d1 dl; obtain ⟨d0, d1, dl⟩ := H5.out.cells)
                  | (refine (X.sll _ _ _ _ H3.out.rq).mono ?_; rintro e w4 ⟨rfl, hb⟩; have H4 := Lib.hid (H3.out.belo hb); clear hb d0 d1 dl; obtain ⟨d0, d1, dl⟩ := H4.out.cells))
              | (go_at_call 8; refine (hs _ _ _ _ H5.out.rq).mono ?_; rintro e w6 ⟨rfl, hr, hf⟩; have H6 := Lib.hid (H5.out.done hr hf); clear hr hf d0 d1 dl; obtain ⟨d0, d1, dl⟩ := H6.out.cells)
              | (go_at_call 12; refine (hC _ _ _ _ _ _ H6.out.rp H6.out.rq).mono ?_; rintro e w7 ⟨rfl, hb⟩; have H7 := Lib.hid (H6.out.belo hb); clear hb))
            go_ret
            exact ⟨rfl, H7.out.below⟩
        · by_cases r1 : how.tmod 3 = 1
          · by_cases hm0 : m = 0
            · have hm1 : text.size = 0 := by rw [HMM.out]; exact hm0
              go_wp2_with (first
                | (go_at_call 14; refine (X.rot _ _ _ _ H3.out.rq).mono ?_; rintro e w' ⟨rfl, rfl⟩)
                | (go_at_call 15; first
                    | (refine (X.sll _ _ _ _ H3.out.rq).mono ?_; rintro e w4 ⟨rfl, hb⟩; have H4 := Lib.hid (H3.out.belo hb); clear hb d0 d1 dl; obtain ⟨d0, d1, dl⟩ := H4.out.cells)))
              go_ret
              exact ⟨rfl, H4.out.below⟩
            · obtain ⟨jj, hj1, hj2⟩ := rem_nat a0 (m : Int) a0b.1 (by omega)
              have hm1 : ¬ text.size = 0 := by rw [HMM.out]; exact hm0
              have hm2 : ¬ ((m : Int) = 0) := by omega
              have hjm : jj < m := by omega
              obtain ⟨q1, q3⟩ := xor1 (X.y jj) (X.yb jj)
              obtain ⟨s', hs, hC⟩ := X.ch3 jj (bits .xor .u8 (X.y jj) 1) hjm q1 q3
              clear q1 q3
              go_upto_region 42 with (first
                | (go_at_call 14; refine (X.rot _ _ _ _ H3.out.rq).mono ?_; rintro e w' ⟨rfl, rfl⟩)
                | (go_at_call 15; first
                    | (refine (X.sll _ _ _ _ H3.out.rq).mono ?_; rintro e w4 ⟨rfl, hb⟩; have H4 := Lib.hid (H3.out.belo hb); clear hb d0 d1 dl; obtain ⟨d0, d1, dl⟩ := H4.out.cells)))
              go_region_with (go_at_call 16; refine (X.byk _ _ _ _ jj hjm ((H4.out.belo (Joins.below_draws _ _ _)).rq)).mono ?_; rintro e w5 ⟨rfl, hb⟩; have H5 := Lib.hid ((H4.out.belo (Joins.below_draws _ _ _)).belo hb); clear hb d0 d1 dl; obtain ⟨d0, d1, dl⟩ := H5.out.cells)
              all_goals go_wp2
              all_goals (go_region_with (go_at_call 13; refine (hs _ _ _ _ ((H5.out.belo (Joins.below_draws _ _ _)).rq)).mono ?_; rintro e w6 ⟨rfl, hr, hf⟩; have H6 := Lib.hid ((H5.out.belo (Joins.below_draws _ _ _)).done hr hf); clear hr hf d0 d1 dl; obtain ⟨d0, d1, dl⟩ := H6.out.cells))
              all_goals (go_wp2_with (go_at_call 12; first
                | (refine (hC _ _ _ _ _ _ H6.out.rp H6.out.rq).mono ?_; rintro e w7 ⟨rfl, hb⟩; have H7 := Lib.hid (H6.out.belo hb); clear hb)
                | (have H6' := H6.out.belo (Joins.below_draws _ _ _); refine (hC _ _ _ _ _ _ H6'.rp H6'.rq).mono ?_; rintro e w7 ⟨rfl, hb⟩; have H7 := Lib.hid (H6'.belo hb); clear hb)))
              all_goals go_ret
              all_goals exact ⟨rfl, H7.out.below⟩
          · obtain ⟨s', hs, hC⟩ := X.ch4
            have hc1 : c + 1 ≤ 9223372036854775807 := by omega
            go_wp2_with (first
              | (go_at_call 14; refine (X.rot _ _ _ _ H3.out.rq).mono ?_; rintro e w' ⟨rfl, rfl⟩)
              | (go_at_call 15; first
                  | (refine (X.sll _ _ _ _ H3.out.rq).mono ?_; rintro e w4 ⟨rfl, hb⟩; have H4 := Lib.hid (H3.out.belo hb); clear hb d0 d1 dl; obtain ⟨d0, d1, dl⟩ := H4.out.cells))
              | (go_at_call 17; refine (hs _ _ _ _ H4.out.rq).mono ?_; rintro e w6 ⟨rfl, hr, hf⟩; have H6 := Lib.hid (H4.out.done hr hf); clear hr hf d0 d1 dl; obtain ⟨d0, d1, dl⟩ := H6.out.cells)
              | (go_at_call 12; refine (hC _ _ _ _ _ _ H6.out.rp H6.out.rq).mono ?_; rintro e w7 ⟨rfl, hb⟩; have H7 := Lib.hid (H6.out.belo hb); clear hb))
            go_ret
            exact ⟨rfl, H7.out.below⟩
end Go.Proofs.Ytklbgccfcfldaaa.Wk
set_option linter.unusedVariables false
namespace Go.Proofs.Ytklbgccfcfldaaa.Wk
open Go.ChangeShapes Go.WideShapes Go.ChangeAt Go.RowKit Go.Shelf M

theorem cell_in {w : World} {a : Addr} {v : Value} (h : w.cell? a = some v) : a.block < w.heap.size := by
  rcases Nat.lt_or_ge a.block w.heap.size with h1 | h1
  · exact h1
  · unfold World.cell? at h
    rw [Array.getElem?_eq_none h1] at h
    simp at h
theorem cellsI : Try.prog.cellsOf 2 = 1 := by kernel_rfl
set_option maxRecDepth 100000 in
/-- A list of numbers that came in. -/
theorem open_nums {H : Type} {enc : TypeId × Value → H} {w : World} {base : Nat} {v : Value} {d : DataW H} {p : List MemPlace} (hv : Value.okWide Try.prog w .any base 47 v) (h : DataW.Trod enc Try.prog w 0 (fun _ => true) true 47 v d p) :
    ∃ (A : Option Addr) (c : Nat) (xs : List Int), v = .slice A xs.length c ∧ xs.length ≤ maxLen ∧ ∀ j x, xs[j]? = some x → (∃ a, A = some a ∧ a.block < w.heap.size ∧ w.cell? (a.add j) = some (.int .i64 x)) ∧ (-9223372036854775808 ≤ x ∧ x ≤ 9223372036854775807) := by
  obtain ⟨a0, len0, cap0, rfl⟩ := okWide_slice Try.underlying47 hv
  obtain ⟨m, hm⟩ := h
  have hcs : (Value.slice a0 len0 cap0).cells.toList = [.slice a0 len0 cap0] := rfl
  rw [hcs] at hm
  rcases open_ints Try.underlying47 Try.underlying2 cellsI hm with ⟨h1, _⟩ | ⟨a, len, cap, zs, h1, _, hl, hcm, hz, _, hcell, hwz⟩
  · injection h1 with h1 _
    injection h1 with e1 e2 e3
    subst e1 e2 e3
    exact ⟨none, 0, [], rfl, Nat.zero_le _, fun j x hx => by simp at hx⟩
  · injection h1 with h1 _
    injection h1 with e1 e2 e3
    subst e1 e2 e3
    simp only [if_true] at hz
    have hlen : (zs.take len0).length = len0 := by simp; omega
    refine ⟨some a, cap0, zs.take len0, by rw [hlen], by rw [hlen]; omega, fun j x hx => ?_⟩
    rw [List.getElem?_take] at hx
    split at hx
    · obtain ⟨hj, -⟩ := List.getElem?_eq_some_iff.1 hx
      have hc := hcell j hj
      have e : zs.getD j 0 = x := by rw [List.getD_eq_getElem?_getD, hx]; rfl
      rw [e] at hc
      have hb := bounds_i64 (hwz _ (List.mem_of_getElem? hx))
      refine ⟨⟨a, rfl, ?_, hc⟩, hb⟩
      have := cell_in hc
      rwa [add_block] at this
    · cases hx

set_option maxRecDepth 100000 in
theorem GraphTells_walk {H : Type} {enc : TypeId × Value → H} {base : Nat} {d : DataW H} {p : List MemPlace} (c : Int) (v : Value) (t : ByteArray) (a h : Int) (w : World) (w0 : (Lit.int .i64 c).wf = true) (w1 : Value.okWide Try.prog w .any base 47 v) (h1 : DataW.Trod enc Try.prog w 0 (fun _ => true) true 47 v d p) (w2 : t.size ≤ maxLen) (w3 : (Lit.int .i64 a).wf = true) (w4 : (Lit.int .i64 h).wf = true) :
    Calls Try.prog 4 #[.int .i64 c, v, .string t, .int .i64 a, .int .i64 h] w fun e w' => e = .returned (.bool true) ∧ Below w.heap.size w w' := by
  obtain ⟨A, cap, xs, rfl, hxm, hx⟩ := open_nums w1 h1
  have hc := bounds_i64 w0
  by_cases hbig : c < 0 ∨ 4095 ≤ c ∨ 1000 < xs.length ∨ 1000 < t.size
  · exact GraphTells_early c a h A cap xs.length t w hxm w2 hbig
  · exact GraphTells_main c a h A cap xs t w (by omega) (by omega) (by omega) hx (bounds_i64 w3) (bounds_i64 w4)
end Go.Proofs.Ytklbgccfcfldaaa.Wk
