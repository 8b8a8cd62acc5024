/- What files there are, and the deeds of WorldSynced, as plain data. No text of the program. -/
import Derived.Test.YtpkhghjmelgpeaaGreatW33
import Derived.Test.YtpkhghjmelgpeaaGreatM4
set_option linter.unusedVariables false
namespace Go.Proofs.YtpkhghjmelgpeaaGreat.Wk
open M

theorem mem_files {s : St} (h : Wf s) {x : ByteArray × ByteArray} : x ∈ filesOf s ↔ ∃ (i : Nat) (f : Fs), s.fs[i]? = some f ∧ f.name ≠ noS ∧ x = (f.name, M.strOf f.now) := by
  unfold filesOf sortedNames
  rw [List.mem_map]
  constructor
  · rintro ⟨n, hn, rfl⟩
    rw [(List.mergeSort_perm _ _).mem_iff, mem_names] at hn
    cases hq : find s.fs (M.strOf n) with
    | none => rw [hq] at hn; cases hn
    | some i =>
      obtain ⟨f, h1, h2, h3⟩ := find_some hq
      refine ⟨i, f, h1, by rw [h2]; exact h3, ?_⟩
      unfold nowAt; rw [hq]
      simp only
      rw [nowOf_get h1, h2]
  · rintro ⟨i, f, h1, h2, rfl⟩
    have hq := find_self h h1 h2
    refine ⟨f.name.data.toList, ?_, ?_⟩
    · rw [(List.mergeSort_perm _ _).mem_iff, mem_names, strOf_back, hq]; rfl
    · unfold nowAt; rw [strOf_back, hq]
      simp only
      rw [nowOf_get h1]
theorem filter_one {α : Type} [DecidableEq α] {a : α} : ∀ {l : List α}, l.Nodup → a ∈ l → l.filter (fun x => decide (x = a)) = [a] := by
  intro l
  induction l with
  | nil => intro _ h; cases h
  | cons b r ih =>
    intro hn hm
    rw [List.nodup_cons] at hn
    by_cases hb : b = a
    · subst hb
      rw [List.filter_cons_of_pos (by simp)]
      congr 1
      rw [List.filter_eq_nil_iff]
      intro x hx e
      have : x = b := by simpa using e
      subst this; exact hn.1 hx
    · rw [List.filter_cons_of_neg (by simpa using hb)]
      exact ih hn.2 (by rcases List.mem_cons.1 hm with e | e; exact absurd e.symm hb; exact e)
theorem one_file {s : St} (h : Wf s) {i : Nat} {f : Fs} (hf : s.fs[i]? = some f) (hn : f.name ≠ noS) : ((filesOf s).filter fun x => decide (x.1 = f.name)).length = 1 := by
  unfold filesOf
  rw [List.filter_map, List.length_map]
  have e : ((fun x : ByteArray × ByteArray => decide (x.1 = f.name)) ∘ fun n => (M.strOf n, M.strOf (nowAt s n))) = fun n => decide (n = f.name.data.toList) := by
    funext n
    simp only [Function.comp]
    congr 1
    refine propext ⟨fun e => by rw [← e]; rfl, fun e => by rw [e, strOf_back]⟩
  rw [e, filter_one (a := f.name.data.toList)]
  · rfl
  · unfold sortedNames
    exact (List.mergeSort_perm _ _).nodup_iff.2 (nodup_names h)
  · unfold sortedNames
    rw [(List.mergeSort_perm _ _).mem_iff, mem_names, strOf_back, find_self h hf hn]; rfl

/-- An operation in a world that lives and has no choices. -/
theorem free {s : St} {d : Dd} {act : St → Ch → Dd → St × Dd} (h1 : s.dead = false) (h2 : s.ch = []) : perform s d act = ({ (act s noCh d).1 with told := (act s noCh d).1.told ++ [(act s noCh d).2] }, (act s noCh d).2) := by
  have h := perform_act (s := s) (d := d) (act := act) h1 (by rw [h2]; decide) (by rw [h2]; simp [M.chosen, noCh])
  have e : ({ s with ch := s.ch.tail } : St) = s := by cases s; simp at h2; subst h2; rfl
  rw [e, h2] at h
  exact h

/-- What New leaves. -/
theorem newFs_all (F : List (ByteArray × ByteArray)) : ∀ (s s' : St), newFs s F = some s' → (∀ f ∈ s.fs, f.uns = []) → s'.ch = s.ch ∧ s'.clock = s.clock ∧ s'.dead = s.dead ∧ s'.told = s.told ∧ s'.hs = s.hs ∧ s'.writes = s.writes ∧ ∀ f ∈ s'.fs, f.uns = [] := by
  induction F with
  | nil => intro s s' h hu; cases h; exact ⟨rfl, rfl, rfl, rfl, rfl, rfl, hu⟩
  | cons y r ih =>
    intro s s' h hu
    simp only [newFs] at h
    cases hq : newF s y with
    | none => rw [hq] at h; cases h
    | some s1 =>
      rw [hq] at h
      have h2 : newFs s1 r = some s' := h
      obtain ⟨_, _, _, rfl⟩ := newF_some hq
      have hz : ∀ f ∈ s.fs ++ [(⟨y.1, y.2.data.toList, y.2.data.toList, []⟩ : Fs)], f.uns = [] := (fun f hf => by
        rcases List.mem_append.1 hf with h1 | h1
        · exact hu f h1
        · simp at h1; subst h1; rfl)
      have := ih _ s' h2 hz
      exact this
theorem mkNew_all {l : List Ch} {F : List (ByteArray × ByteArray)} {s : St} (h : mkNew l F = some s) : s.ch = l ∧ s.clock = 0 ∧ s.dead = false ∧ s.told = [] ∧ s.hs = [] ∧ s.writes = 0 ∧ ∀ f ∈ s.fs, f.uns = [] := by
  unfold mkNew at h
  split at h
  · cases h
  · exact newFs_all F _ _ h (fun f hf => by cases hf)

/-- A state between WorldSynced's calls: alive, no choices; file i has this name; its handle, and how many deeds and writes there may be. -/
structure Mid (s : St) (i : Nat) (name : ByteArray) (hs : List Hd) (n : Nat) : Prop where
  ch : s.ch = []
  alive : s.dead = false
  told : s.told.length ≤ n
  writes : s.writes ≤ n
  hs_ : s.hs = hs
  file : ∃ f, s.fs[i]? = some f ∧ f.name = name
  nm : name ≠ noS

theorem get_setF {fs : List Fs} {i : Nat} {F : Fs → Fs} {f : Fs} (h : fs[i]? = some f) : (setF fs i F)[i]? = some (F f) := by
  unfold setF; rw [get_modify, if_pos rfl, h]; rfl
theorem mid_open {s : St} {name : ByteArray} (hch : s.ch = []) (hd : s.dead = false) (ht : s.told = []) (hw : s.writes = 0) (hhs : s.hs = []) (h0 : refuses s name 2 = 0) :
    ∃ (S : St) (i : Nat), perform s ⟨1, 0, name, noS, 2, 0⟩ (actOpen name 2) = (S, ⟨1, 1, name, noS, 2, 0⟩) ∧ Mid S i name [.file false i 2 0] 1 ∧ ∃ f : Fs, S.fs[i]? = some f ∧ f.now = [] := by
  have hn : isName name = true := by
    unfold M.refuses at h0
    split at h0
    · cases h0
    · simpa using ‹¬ isName name = false›
  have hne := name_ne hn
  rw [free hd hch]
  cases hf : find s.fs name with
  | some i =>
    obtain ⟨f, hfi, hfn, _⟩ := find_some hf
    have hm : made s name = (s, i) := by unfold made; rw [hf]
    have hA : actOpen name 2 s noCh ⟨1, 0, name, noS, 2, 0⟩ = ({ (change s i true 0 noS) with hs := (change s i true 0 noS).hs ++ [.file false i 2 0] }, ⟨1, (change s i true 0 noS).hs.length + 1, name, noS, 2, 0⟩) := by
      unfold actOpen; rw [if_neg (by simp [h0]), hm]; rfl
    have e1 : (change s i true 0 noS).hs = [] := hhs
    have e2 : ((change s i true 0 noS).hs.length : Int) + 1 = 1 := by rw [e1]; rfl
    rw [e2] at hA
    rw [hA]
    refine ⟨_, i, rfl, ⟨hch, hd, by show (s.told ++ _).length ≤ 1; rw [ht]; simp, by show s.writes + 1 ≤ 1; omega, by show (change s i true 0 noS).hs ++ _ = _; rw [e1]; rfl, ⟨_, get_setF hfi, hfn⟩, hne⟩, ⟨_, get_setF hfi, rfl⟩⟩
  | none =>
    have hm : made s name = ({ s with fs := s.fs ++ [⟨name, [], [], []⟩] }, s.fs.length) := by unfold made; rw [hf]
    have hfi : (s.fs ++ [(⟨name, [], [], []⟩ : Fs)])[s.fs.length]? = some ⟨name, [], [], []⟩ := by simp
    obtain ⟨s1, hs1⟩ : ∃ s1 : St, s1 = { s with fs := s.fs ++ [⟨name, [], [], []⟩] } := ⟨_, rfl⟩
    rw [← hs1] at hm
    have hA : actOpen name 2 s noCh ⟨1, 0, name, noS, 2, 0⟩ = ({ (change s1 s.fs.length true 0 noS) with hs := (change s1 s.fs.length true 0 noS).hs ++ [.file false s.fs.length 2 0] }, ⟨1, (change s1 s.fs.length true 0 noS).hs.length + 1, name, noS, 2, 0⟩) := by
      unfold actOpen; rw [if_neg (by simp [h0]), hm]; rfl
    have e1 : (change s1 s.fs.length true 0 noS).hs = [] := by rw [hs1]; exact hhs
    have e2 : ((change s1 s.fs.length true 0 noS).hs.length : Int) + 1 = 1 := by rw [e1]; rfl
    rw [e2] at hA
    rw [hA]
    have hfi1 : s1.fs[s.fs.length]? = some ⟨name, [], [], []⟩ := by rw [hs1]; exact hfi
    refine ⟨_, s.fs.length, rfl, ⟨by rw [hs1]; exact hch, by rw [hs1]; exact hd, by rw [hs1]; show (s.told ++ _).length ≤ 1; rw [ht]; simp, by rw [hs1]; show s.writes + 1 ≤ 1; omega, by show (change s1 s.fs.length true 0 noS).hs ++ _ = _; rw [e1]; rfl, ⟨_, get_setF hfi1, rfl⟩, hne⟩, ⟨_, get_setF hfi1, rfl⟩⟩
theorem mid_open_err {s : St} {name : ByteArray} {m : Int} (hch : s.ch = []) (hd : s.dead = false) (h0 : refuses s name m ≠ 0) :
    ∃ S, perform s ⟨1, 0, name, noS, m, 0⟩ (actOpen name m) = (S, ⟨1, 0, name, noS, m, refuses s name m⟩) := by
  rw [free hd hch]
  have hA : actOpen name m s noCh ⟨1, 0, name, noS, m, 0⟩ = (s, ⟨1, 0, name, noS, m, refuses s name m⟩) := by unfold actOpen; rw [if_pos h0]
  rw [hA]; exact ⟨_, rfl⟩
theorem mid_write {s : St} {name text : ByteArray} {i : Nat} (h : Mid s i name [.file false i 2 0] 1) (hnow : ∃ f : Fs, s.fs[i]? = some f ∧ f.now = []) (hl : text.size ≤ 4194304) :
    ∃ S, perform s ⟨3, 1, text, noS, 0, 0⟩ (M.onFile (actWrite text)) = (S, ⟨3, 1, text, noS, 0, 0⟩) ∧ Mid S i name [.file false i 2 text.size] 2 ∧ ∃ f : Fs, S.fs[i]? = some f ∧ f.now = text.data.toList := by
  obtain ⟨h1, h2, h3, h4, h5, ⟨f, hf, hfn⟩, h7⟩ := h
  obtain ⟨f', hf', hn'⟩ := hnow
  rw [hf] at hf'; cases hf'
  rw [free h2 h1]
  have hh : hdOf s.hs 1 = .file false i 2 0 := by rw [h5]; rfl
  have hA : M.onFile (actWrite text) s noCh ⟨3, 1, text, noS, 0, 0⟩ = ({ (change s i false 0 text) with hs := setAt (change s i false 0 text).hs 1 (.file false i 2 (0 + text.size)) }, ⟨3, 1, text, noS, 0, 0⟩) := by
    unfold M.onFile
    simp only
    rw [hh]
    simp only
    unfold actWrite
    simp only [if_neg (show ¬ ((2 : Int) = 1) by decide), if_neg (show ¬ ((2 : Int) = 3) by decide)]
    rw [if_neg (by omega)]
  rw [hA]
  refine ⟨_, rfl, ⟨h1, h2, by show (s.told ++ _).length ≤ 2; simp; omega, by show s.writes + 1 ≤ 2; omega, ?_, ⟨_, get_setF hf, hfn⟩, h7⟩, ⟨_, get_setF hf, ?_⟩⟩
  · show setAt s.hs 1 _ = _
    rw [h5, Nat.zero_add]; rfl
  · simp only
    rw [hn']
    simp [app]
theorem mid_write_full {s : St} {name text : ByteArray} {i : Nat} (h : Mid s i name [.file false i 2 0] 1) (hl : 4194304 < text.size) :
    ∃ S, perform s ⟨3, 1, text, noS, 0, 0⟩ (M.onFile (actWrite text)) = (S, ⟨3, 1, text, noS, 0, 34⟩) := by
  obtain ⟨h1, h2, h3, h4, h5, ⟨f, hf, hfn⟩, h7⟩ := h
  rw [free h2 h1]
  have hh : hdOf s.hs 1 = .file false i 2 0 := by rw [h5]; rfl
  have hA : M.onFile (actWrite text) s noCh ⟨3, 1, text, noS, 0, 0⟩ = (s, ⟨3, 1, text, noS, 0, 34⟩) := by
    unfold M.onFile
    simp only
    rw [hh]
    simp only
    unfold actWrite
    simp only [if_neg (show ¬ ((2 : Int) = 1) by decide), if_neg (show ¬ ((2 : Int) = 3) by decide)]
    rw [if_pos (by omega)]
  rw [hA]; exact ⟨_, rfl⟩
theorem mid_sync {s : St} {name : ByteArray} {i a : Nat} {l : List UInt8} (h : Mid s i name [.file false i 2 a] 2) (hnow : ∃ f : Fs, s.fs[i]? = some f ∧ f.now = l) :
    ∃ S, perform s ⟨5, 1, noS, noS, 0, 0⟩ (M.onFile actSync) = (S, ⟨5, 1, noS, noS, 0, 0⟩) ∧ Mid S i name [.file false i 2 a] 3 ∧ ∃ f : Fs, S.fs[i]? = some f ∧ f.base = l ∧ f.uns = [] := by
  obtain ⟨h1, h2, h3, h4, h5, ⟨f, hf, hfn⟩, h7⟩ := h
  obtain ⟨f', hf', hn'⟩ := hnow
  rw [hf] at hf'; cases hf'
  rw [free h2 h1]
  have hh : hdOf s.hs 1 = .file false i 2 a := by rw [h5]; rfl
  have hA : M.onFile actSync s noCh ⟨5, 1, noS, noS, 0, 0⟩ = ({ s with fs := setF s.fs i fun f => { f with base := f.now, uns := [] } }, ⟨5, 1, noS, noS, 0, 0⟩) := by
    unfold M.onFile
    simp only
    rw [hh]
    rfl
  rw [hA]
  exact ⟨_, rfl, ⟨h1, h2, by show (s.told ++ _).length ≤ 3; simp; omega, by show s.writes ≤ 3; omega, h5, ⟨_, get_setF hf, hfn⟩, h7⟩, ⟨_, get_setF hf, hn', rfl⟩⟩
theorem mid_close {s : St} {name : ByteArray} {i a : Nat} {l : List UInt8} (h : Mid s i name [.file false i 2 a] 3) (hnow : ∃ f : Fs, s.fs[i]? = some f ∧ f.base = l ∧ f.uns = []) :
    ∃ S, perform s ⟨6, 1, noS, noS, 0, 0⟩ (actClose 1) = (S, ⟨6, 1, noS, noS, 0, 0⟩) ∧ Mid S i name [.closed] 4 ∧ ∃ f : Fs, S.fs[i]? = some f ∧ f.base = l ∧ f.uns = [] := by
  obtain ⟨h1, h2, h3, h4, h5, h6, h7⟩ := h
  rw [free h2 h1]
  have hh : hdOf s.hs 1 = .file false i 2 a := by rw [h5]; rfl
  have hA : actClose 1 s noCh ⟨6, 1, noS, noS, 0, 0⟩ = ({ s with hs := setAt s.hs 1 .closed }, ⟨6, 1, noS, noS, 0, 0⟩) := by
    unfold actClose
    rw [hh]
  rw [hA]
  exact ⟨_, rfl, ⟨h1, h2, by show (s.told ++ _).length ≤ 4; simp; omega, by show s.writes ≤ 4; omega, by show setAt s.hs 1 _ = _; rw [h5]; rfl, h6, h7⟩, hnow⟩
theorem mid_rename_bad {s : St} {name to : ByteArray} {i : Nat} (h : Mid s i name [.closed] 4) (hb : isName to = false) :
    ∃ S, perform s ⟨7, 0, name, to, 0, 0⟩ (actRename name to) = (S, ⟨7, 0, name, to, 0, 35⟩) := by
  rw [free h.alive h.ch]
  have hA : actRename name to s noCh ⟨7, 0, name, to, 0, 0⟩ = (s, ⟨7, 0, name, to, 0, 35⟩) := by unfold actRename; rw [if_pos (.inr hb)]
  rw [hA]; exact ⟨_, rfl⟩
theorem mid_rename {s : St} {name to : ByteArray} {i : Nat} {l : List UInt8} (hwf : Wf s) (h : Mid s i name [.closed] 4) (hnow : ∃ f : Fs, s.fs[i]? = some f ∧ f.base = l ∧ f.uns = []) (hb : isName to = true) :
    ∃ S, perform s ⟨7, 0, name, to, 0, 0⟩ (actRename name to) = (S, ⟨7, 0, name, to, 0, 0⟩) ∧ S.writes ≤ 4 ∧ S.told.length ≤ 5 ∧ (∃ f : Fs, S.fs[i]? = some f ∧ f.name = to ∧ f.base = l ∧ f.uns = []) ∧ (name ≠ to → find S.fs name = none) := by
  obtain ⟨h1, h2, h3, h4, h5, ⟨f, hf, hfn⟩, h7⟩ := h
  obtain ⟨f', hf', hn1, hn2⟩ := hnow
  rw [hf] at hf'; cases hf'
  rw [free h2 h1]
  have hfd : find s.fs name = some i := by rw [← hfn]; exact find_self hwf hf (by rw [hfn]; exact h7)
  have hna : isName name = true := by rw [← hfn]; exact hwf.isName f (List.mem_of_getElem? hf) (by rw [hfn]; exact h7)
  by_cases hab : name = to
  · have hA : actRename name to s noCh ⟨7, 0, name, to, 0, 0⟩ = (s, ⟨7, 0, name, to, 0, 0⟩) := by unfold actRename; rw [if_neg (by simp [hna, hb]), hfd]; simp only; rw [if_pos hab]
    rw [hA]
    exact ⟨_, rfl, h4, by show (s.told ++ _).length ≤ 5; simp; omega, ⟨f, hf, hfn.trans hab, hn1, hn2⟩, fun e => absurd hab e⟩
  · rw [actRename_eq hna hb hfd hab]
    obtain ⟨r1, r2, r3, r4⟩ := rnm_all hwf hfd hb hab
    refine ⟨_, rfl, h4, by show (s.told ++ _).length ≤ 5; simp; omega, ?_, fun _ => ?_⟩
    · have := r2 to
      rw [if_pos rfl] at this
      obtain ⟨g, hg, hgn, _⟩ := find_some this
      obtain ⟨x, hx, e1, e2, e3⟩ := r4 i g hg
      rw [hf] at hx; cases hx
      exact ⟨g, hg, hgn, e2.trans hn1, e3.trans hn2⟩
    · show find (rnm s.fs to i) name = none
      rw [r2 name, if_neg hab, if_pos rfl]

/-- What a crash leaves of them. -/
theorem left_mem {s : St} {which : Nat} {cs : List Ch} {is : List Nat} (hp : is.Perm (namedIx s.fs)) (hw : Wf (leftSt s which cs is)) {x : ByteArray × ByteArray} (hx : x ∈ filesOf (leftSt s which cs is)) :
    ∃ (i : Nat) (f : Fs), s.fs[i]? = some f ∧ f.name ≠ noS ∧ x = (f.name, M.strOf (surv which (ordersOf s.fs) f.base (f.uns.take 64))) := by
  obtain ⟨j, g, hj, hg, rfl⟩ := (mem_files hw).1 hx
  change (is.map (leftF s which))[j]? = some g at hj
  rw [List.getElem?_map] at hj
  cases hq : is[j]? with
  | none => rw [hq] at hj; cases hj
  | some i =>
    rw [hq] at hj
    simp at hj
    subst hj
    have hm := hp.mem_iff.1 (List.mem_of_getElem? hq)
    unfold namedIx at hm
    obtain ⟨hi, hn⟩ := List.mem_filter.1 hm
    unfold isNamed at hn
    cases hf : s.fs[i]? with
    | none => rw [hf] at hn; cases hn
    | some f =>
      rw [hf] at hn
      rw [leftF_at hf]
      exact ⟨i, f, hf, by simpa using hn, rfl⟩
theorem left_has {s : St} {which : Nat} {cs : List Ch} {is : List Nat} (hp : is.Perm (namedIx s.fs)) {i : Nat} {f : Fs} (hf : s.fs[i]? = some f) (hn : f.name ≠ noS) :
    ∃ (j : Nat) (g : Fs), (leftSt s which cs is).fs[j]? = some g ∧ g.name = f.name := by
  have hm : i ∈ is := by
    rw [hp.mem_iff]; unfold namedIx
    refine List.mem_filter.2 ⟨List.mem_range.2 (List.getElem?_eq_some_iff.1 hf).1, ?_⟩
    unfold isNamed; rw [hf]; simpa using hn
  obtain ⟨j, hj⟩ := List.mem_iff_getElem?.1 hm
  refine ⟨j, leftF s which i, ?_, by rw [leftF_at hf]⟩
  show (is.map (leftF s which))[j]? = _
  rw [List.getElem?_map, hj]; rfl
/-- WorldSynced's end, as data. -/
theorem synced_end {s : St} {which : Nat} {cs : List Ch} {is : List Nat} {i : Nat} {name to text : ByteArray} (hwf : Wf s) (hp : is.Perm (namedIx s.fs)) (hw : Wf (leftSt s which cs is)) (hto : isName to = true)
    (hf : ∃ f : Fs, s.fs[i]? = some f ∧ f.name = to ∧ f.base = text.data.toList ∧ f.uns = []) (hnone : name ≠ to → find s.fs name = none) :
    ((filesOf (leftSt s which cs is)).filter fun x => decide (x.1 = to)).length = 1 ∧ ∀ x ∈ filesOf (leftSt s which cs is), (x.1 = to → x.2 = text) ∧ (x.1 = name → name = to) := by
  obtain ⟨f, hf, hfn, hb, hu⟩ := hf
  have hne := name_ne hto
  constructor
  · obtain ⟨j, g, hj, hg⟩ := left_has (which := which) (cs := cs) hp hf (by rw [hfn]; exact hne)
    have := one_file hw hj (by rw [hg, hfn]; exact hne)
    rw [hg, hfn] at this
    exact this
  · intro x hx
    obtain ⟨j, g, hj, hg, rfl⟩ := left_mem hp hw hx
    constructor
    · intro e
      simp only at e ⊢
      have hij : j = i := hwf.names j i g f hj hf (e.trans hfn.symm) hg
      subst hij
      rw [hf] at hj; cases hj
      rw [hu, hb]
      exact strOf_back text
    · intro e
      simp only at e
      by_cases hab : name = to
      · exact hab
      · exact absurd e (find_none (hnone hab) (by rw [← e]; exact hg) g (List.mem_of_getElem? hj))
end Go.Proofs.YtpkhghjmelgpeaaGreat.Wk
