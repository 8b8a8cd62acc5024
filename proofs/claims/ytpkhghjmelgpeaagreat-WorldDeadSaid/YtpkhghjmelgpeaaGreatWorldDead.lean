/- WorldDead: the law answers true for every input, and every argument reads behind the call as it read before. No condition beyond the row's own. -/
import Derived.Test.YtpkhghjmelgpeaaGreatM4
import Derived.Test.YtpkhghjmelgpeaaGreatM6
import Derived.Test.YtpkhghjmelgpeaaGreatW23
import Derived.Test.YtpkhghjmelgpeaaGreatW24
import Derived.Deep.SlicePairs
import Derived.Lib.SmallJoins
import Derived.SizedLaws
import Derived.Shelf.Strings.Builder1
import Derived.Shelf.Strings.Builder2
import Derived.Shelf.Strconv.Clone
import Derived.Test.YtpkhghjmelgpeaaGreatRows
import Derived.Test.YtpkhghjmelgpeaaGreatW36
import Derived.Test.YtpkhghjmelgpeaaGreatW37
import Derived.Test.YtpkhghjmelgpeaaGreatW26
import Derived.BigQuiet
import Derived.WalkKit
import Derived.ProofKit
import Derived.OpenShut
import Derived.ShutString
import Derived.ChangeOld
import Derived.Below
set_option linter.unusedVariables false
namespace Go.Proofs.YtpkhghjmelgpeaaGreat.M

def hostErr (hs : List Hd) (n : Int) : Int :=
  match hdOf hs n with
  | .host false => 0
  | .host true => 31
  | _ => 30
def clockOf (s : St) (c : Ch) : Int := if c.kind = 1 ∧ 0 ≤ c.n ∧ c.n ≤ 1000000000000 then min (s.clock + c.n) 1000000000000000000 else s.clock
def actClock (s : St) (c : Ch) (d : Dd) : St × Dd := ({ s with clock := clockOf s c }, { d with n := clockOf s c, err := 0 })
def actConnect (host : ByteArray) (s : St) (c : Ch) (d : Dd) : St × Dd :=
  if isName host = false then (s, { d with err := 35 })
  else if c.kind ≠ 2 ∨ c.text ≠ host then (s, { d with err := 32 })
  else if chosen c 2 ≠ 0 then (s, { d with err := chosen c 2 })
  else if live s.hs = 32 then (s, { d with err := 34 })
  else ({ s with hs := s.hs ++ [.host false] }, { d with handle := s.hs.length + 1, err := 0 })
def actSend (n : Int) (s : St) (c : Ch) (d : Dd) : St × Dd := (s, { d with err := hostErr s.hs n })
def actReceive (n m : Int) (s : St) (c : Ch) (d : Dd) : St × Dd :=
  if hostErr s.hs n ≠ 0 then (s, { d with err := hostErr s.hs n })
  else if m < 0 then (s, { d with err := 1 })
  else if chosen c 3 ≠ 0 then (s, { d with err := chosen c 3 })
  else if c.kind = 3 then (s, { d with text := strOf (c.text.data.toList.take m.toNat), err := 0 })
  else (s, { d with err := 0 })
theorem told_clock (s : St) (c : Ch) (d : Dd) : (actClock s c d).1.told = s.told := rfl
theorem told_connect (h : ByteArray) (s : St) (c : Ch) (d : Dd) : (actConnect h s c d).1.told = s.told := by
  unfold actConnect; repeat (split <;> try rfl)
theorem told_send (n : Int) (s : St) (c : Ch) (d : Dd) : (actSend n s c d).1.told = s.told := rfl
theorem told_receive (n m : Int) (s : St) (c : Ch) (d : Dd) : (actReceive n m s c d).1.told = s.told := by
  unfold actReceive; repeat (split <;> try rfl)
end Go.Proofs.YtpkhghjmelgpeaaGreat.M
set_option linter.unusedVariables false
namespace Go.Proofs.YtpkhghjmelgpeaaGreat.M

/-- An act adds a write and a handle at most, and neither deeds nor choices. -/
def Mild (act : St → Ch → Dd → St × Dd) : Prop := ∀ s c d, (act s c d).1.told = s.told ∧ (act s c d).1.writes ≤ s.writes + 1 ∧ (act s c d).1.hs.length ≤ s.hs.length + 1 ∧ (act s c d).1.ch = s.ch
theorem mild_same (s : St) : s.told = s.told ∧ s.writes ≤ s.writes + 1 ∧ s.hs.length ≤ s.hs.length + 1 ∧ s.ch = s.ch := ⟨rfl, by omega, by omega, rfl⟩
theorem setAt_len (hs : List Hd) (n : Int) (h : Hd) : (setAt hs n h).length = hs.length := by unfold setAt; simp
theorem mild_open (name : ByteArray) (m : Int) : Mild (actOpen name m) := by
  intro s c d
  unfold actOpen made
  split
  · exact mild_same s
  · cases find s.fs name <;> (simp only; split <;> (refine ⟨rfl, ?_, ?_, rfl⟩ <;> simp [change]))
theorem mild_onFile {do_ : St → Dd → Nat → Int → Nat → St × Dd} (h : ∀ s d i m a, (do_ s d i m a).1.told = s.told ∧ (do_ s d i m a).1.writes ≤ s.writes + 1 ∧ (do_ s d i m a).1.hs.length ≤ s.hs.length + 1 ∧ (do_ s d i m a).1.ch = s.ch) : Mild (onFile do_) := by
  intro s c d
  unfold onFile
  split
  · exact h s d _ _ _
  · exact mild_same s
  · exact mild_same s
theorem mild_read (n : Int) : Mild (onFile (actRead n)) := mild_onFile fun s d i m a => by
  unfold actRead
  split
  · exact mild_same s
  · split
    · exact mild_same s
    · exact ⟨rfl, by simp, by simp [setAt_len], rfl⟩
theorem mild_write (t : ByteArray) : Mild (onFile (actWrite t)) := mild_onFile fun s d i m a => by
  unfold actWrite
  split
  · exact mild_same s
  · simp only
    generalize (if m = 3 then (nowOf s.fs i).length else a) = p
    split
    · exact mild_same s
    · exact ⟨rfl, by simp [change], by simp [setAt_len, change], rfl⟩
theorem mild_seek (n : Int) : Mild (onFile (actSeek n)) := mild_onFile fun s d i m a => by
  unfold actSeek
  split
  · exact mild_same s
  · exact ⟨rfl, by simp, by simp [setAt_len], rfl⟩
theorem mild_sync : Mild (onFile actSync) := mild_onFile fun s d i m a => ⟨rfl, by simp [actSync], by simp [actSync], rfl⟩
theorem mild_close (n : Int) : Mild (actClose n) := by
  intro s c d
  unfold actClose
  split
  · exact mild_same s
  · exact mild_same s
  · exact mild_same s
  · exact ⟨rfl, by simp, by simp [setAt_len], rfl⟩
theorem mild_rename (a b : ByteArray) : Mild (actRename a b) := by
  intro s c d
  unfold actRename
  split
  · exact mild_same s
  · cases find s.fs a with
    | none => exact mild_same s
    | some i =>
      simp only
      split
      · exact mild_same s
      · exact ⟨rfl, by simp, by simp, rfl⟩
theorem mild_delete (a : ByteArray) : Mild (actDelete a) := by
  intro s c d
  unfold actDelete
  split
  · exact mild_same s
  · cases find s.fs a with
    | none => exact mild_same s
    | some i => exact ⟨rfl, by simp, by simp, rfl⟩
theorem mild_clock : Mild actClock := fun s c d => ⟨rfl, by simp [actClock], by simp [actClock], rfl⟩
theorem mild_connect (h : ByteArray) : Mild (actConnect h) := by
  intro s c d
  unfold actConnect
  split
  · exact mild_same s
  · split
    · exact mild_same s
    · split
      · exact mild_same s
      · split
        · exact mild_same s
        · exact ⟨rfl, by simp, by simp, rfl⟩
theorem mild_send (n : Int) : Mild (actSend n) := fun s c d => mild_same s
theorem mild_receive (n m : Int) : Mild (actReceive n m) := by
  intro s c d
  unfold actReceive
  split
  · exact mild_same s
  · split
    · exact mild_same s
    · split
      · exact mild_same s
      · split <;> exact mild_same s
theorem mild_none : Mild actNone := fun s c d => mild_same s
structure Within (s s' : St) : Prop where
  told : s'.told.length ≤ s.told.length + 1
  writes : s'.writes ≤ s.writes + 1
  hs : s'.hs.length ≤ s.hs.length + 1
  ch : ∀ c ∈ s'.ch, c ∈ s.ch
theorem mild_perform {act : St → Ch → Dd → St × Dd} (h : Mild act) (s : St) (d : Dd) : Within s (perform s d act).1 := by
  unfold perform
  by_cases h0 : s.dead = true
  · rw [if_pos h0]; exact ⟨by simp, by simp, by simp, fun c hc => hc⟩
  · rw [if_neg h0]
    simp only
    by_cases h1 : (s.ch.headD noCh).kind = 5
    · rw [if_pos h1]; exact ⟨by simp, by simp, by simp, fun c hc => List.mem_of_mem_tail hc⟩
    · rw [if_neg h1]
      generalize (if d.kind ≤ 8 then chosen (s.ch.headD noCh) 4 else 0) = e
      by_cases h2 : e ≠ 0
      · rw [if_pos h2]; exact ⟨by simp, by simp, by simp, fun c hc => List.mem_of_mem_tail hc⟩
      · rw [if_neg h2]
        obtain ⟨k1, k2, k3, k4⟩ := h { s with ch := s.ch.tail } (s.ch.headD noCh) d
        refine ⟨?_, k2, k3, fun c hc => ?_⟩
        · simp only [List.length_append, List.length_cons, List.length_nil]; rw [k1]; exact Nat.le_refl _
        · simp only at hc; rw [k4] at hc; exact List.mem_of_mem_tail hc
end Go.Proofs.YtpkhghjmelgpeaaGreat.M
set_option linter.unusedVariables false
namespace Go.Proofs.YtpkhghjmelgpeaaGreat.Wk
open M Go.Shelf Go.Proofs

theorem names_iff {s : St} {x : List UInt8} : x ∈ names s ↔ ∃ (i : Nat) (f : Fs), s.fs[i]? = some f ∧ f.name ≠ noS ∧ x = f.name.data.toList := by
  unfold names
  constructor
  · intro h
    obtain ⟨f, hf, rfl⟩ := List.mem_map.1 h
    obtain ⟨h1, h2⟩ := List.mem_filter.1 hf
    obtain ⟨i, hi⟩ := List.mem_iff_getElem?.1 h1
    exact ⟨i, f, hi, by simpa using h2, rfl⟩
  · rintro ⟨i, f, h1, h2, rfl⟩
    exact List.mem_map.2 ⟨f, List.mem_filter.2 ⟨List.mem_of_getElem? h1, by simpa using h2⟩, rfl⟩
theorem nowAt_self {s : St} (h : Wf s) {i : Nat} {f : Fs} (hf : s.fs[i]? = some f) (hn : f.name ≠ noS) : nowAt s f.name.data.toList = f.now := by
  unfold nowAt; rw [strOf_back, find_self h hf hn]
  simp only
  rw [nowOf_get hf]
theorem files_eq {s s' : St} (hp : (names s').Perm (names s)) (hn : ∀ n ∈ names s, nowAt s' n = nowAt s n) : filesOf s' = filesOf s := by
  have e : sortedNames s' = sortedNames s := by unfold sortedNames; exact mergeSort_of_perm hp
  unfold filesOf
  rw [e]
  refine List.map_congr_left fun n hm => ?_
  have : n ∈ names s := by unfold sortedNames at hm; exact (List.mergeSort_perm _ _).mem_iff.1 hm
  rw [hn n this]
theorem left_names {s : St} {which : Nat} {cs : List Ch} {is : List Nat} (hs : Wf s) (hp : is.Perm (namedIx s.fs)) (hw : Wf (leftSt s which cs is)) : (names (leftSt s which cs is)).Perm (names s) := by
  refine (List.perm_ext_iff_of_nodup (nodup_names hw) (nodup_names hs)).2 fun x => ?_
  rw [names_iff, names_iff]
  constructor
  · rintro ⟨j, g, hj, hg, rfl⟩
    change (is.map (leftF s which))[j]? = some g at hj
    rw [List.getElem?_map] at hj
    cases hq : is[j]? with
    | none => rw [hq] at hj; cases hj
    | some i =>
      rw [hq] at hj; simp at hj; subst hj
      have hm := hp.mem_iff.1 (List.mem_of_getElem? hq)
      unfold namedIx at hm
      obtain ⟨hi, hn⟩ := List.mem_filter.1 hm
      unfold isNamed at hn
      cases hf : s.fs[i]? with
      | none => rw [hf] at hn; cases hn
      | some f =>
        rw [hf] at hn
        rw [leftF_at hf]
        exact ⟨i, f, hf, by simpa using hn, rfl⟩
  · rintro ⟨i, f, hf, hn, rfl⟩
    obtain ⟨j, g, hj, hg⟩ := left_has (which := which) (cs := cs) hp hf hn
    exact ⟨j, g, hj, by rw [hg]; exact hn, by rw [hg]⟩
theorem left_now {s : St} {which : Nat} {cs : List Ch} {is : List Nat} (hs : Wf s) (hp : is.Perm (namedIx s.fs)) (hw : Wf (leftSt s which cs is)) {i : Nat} {f : Fs} (hf : s.fs[i]? = some f) (hn : f.name ≠ noS) :
    nowAt (leftSt s which cs is) f.name.data.toList = surv which (ordersOf s.fs) f.base (f.uns.take 64) := by
  obtain ⟨j, g, hj, hg⟩ := left_has (which := which) (cs := cs) hp hf hn
  have e := nowAt_self hw hj (by rw [hg]; exact hn)
  rw [hg] at e
  rw [e]
  change (is.map (leftF s which))[j]? = some g at hj
  rw [List.getElem?_map] at hj
  cases hq : is[j]? with
  | none => rw [hq] at hj; cases hj
  | some k =>
    rw [hq] at hj; simp at hj; subst hj
    have hm := hp.mem_iff.1 (List.mem_of_getElem? hq)
    unfold namedIx at hm
    obtain ⟨hi, hn2⟩ := List.mem_filter.1 hm
    cases hf2 : s.fs[k]? with
    | none => have := List.mem_range.1 hi; rw [List.getElem?_eq_none_iff] at hf2; omega
    | some f2 =>
      rw [leftF_at hf2] at hg ⊢
      simp only at hg ⊢
      have : k = i := hs.names k i f2 f hf2 hf hg (by rw [hg]; exact hn)
      subst this
      rw [hf] at hf2; cases hf2; rfl
theorem left_fst {s : St} {which : Nat} {cs : List Ch} {is : List Nat} (hs : Wf s) (hp : is.Perm (namedIx s.fs)) (hw : Wf (leftSt s which cs is)) : (filesOf (leftSt s which cs is)).map (·.1) = (filesOf s).map (·.1) := by
  have e : sortedNames (leftSt s which cs is) = sortedNames s := by unfold sortedNames; exact mergeSort_of_perm (left_names hs hp hw)
  unfold filesOf
  rw [e, List.map_map, List.map_map]
  rfl
theorem nodup_lt : ∀ (t : Nat) (l : List Nat), l.Nodup → (∀ x ∈ l, x < t) → l.length ≤ t := by
  intro t
  induction t with
  | zero =>
    intro l _ h
    cases l with
    | nil => exact Nat.le_refl _
    | cons a r => exact absurd (h a (by simp)) (by omega)
  | succ t ih =>
    intro l hn h
    have h1 := ih (l.erase t) (hn.erase t) (fun x hx => by
      obtain ⟨e1, e2⟩ := (hn.mem_erase_iff).1 hx
      have := h x e2; omega)
    by_cases hm : t ∈ l
    · rw [List.length_erase_of_mem hm] at h1; omega
    · rw [List.erase_of_not_mem hm] at h1; omega
theorem nodup_flat {α β : Type} {f : α → List β} : ∀ {l : List α}, (∀ x ∈ l, (f x).Nodup) → l.Pairwise (fun i k => ∀ a ∈ f i, ∀ b ∈ f k, a ≠ b) → (l.flatMap f).Nodup := by
  intro l
  induction l with
  | nil => intro _ _; exact List.nodup_nil
  | cons x r ih =>
    intro h1 h2
    rw [List.pairwise_cons] at h2
    rw [List.flatMap_cons]
    refine List.nodup_append.2 ⟨h1 x (by simp), ih (fun y hy => h1 y (by simp [hy])) h2.2, fun a ha b hb => ?_⟩
    obtain ⟨k, hk, hbk⟩ := List.mem_flatMap.1 hb
    exact h2.1 k hk a ha b hbk
/-- How many of a list of different numbers lie below one of them. -/
theorem below_len {l : List Nat} (h : l.Nodup) (t : Nat) : (l.filter fun x => decide (x < t)).length ≤ t := by
  have h1 : (l.filter fun x => decide (x < t)).Nodup := List.Pairwise.filter _ h
  exact nodup_lt t _ h1 fun x hx => by simpa using (List.mem_filter.1 hx).2
theorem orders_nodup {s : St} (h : Wf s) : (ordersOf s.fs).Nodup := by
  unfold ordersOf
  rw [(List.mergeSort_perm _ _).nodup_iff]
  have hix : (namedIx s.fs).Nodup := List.Pairwise.filter _ List.nodup_range
  refine nodup_flat (fun i _ => ?_) (hix.imp fun {i k} hne => ?_)
  · unfold riskedOf
    split
    · rename_i f hf
      refine List.pairwise_map.2 ?_
      have := (h.ords f (List.mem_of_getElem? hf)).sublist (List.take_sublist 64 f.uns)
      exact this.imp fun {a b} hab => by omega
    · exact List.nodup_nil
  · intro a ha b hb
    unfold riskedOf at ha hb
    split at ha
    · rename_i f hf
      split at hb
      · rename_i g hg
        obtain ⟨x, hx, rfl⟩ := List.mem_map.1 ha
        obtain ⟨y, hy, rfl⟩ := List.mem_map.1 hb
        exact h.apart i k f g hf hg hne x (List.mem_of_mem_take hx) y (List.mem_of_mem_take hy)
      · cases hb
    · cases ha
theorem surv_all {s : St} (h : Wf s) (hw : s.writes ≤ 64) {f : Fs} (hf : f ∈ s.fs) : surv 18446744073709551615 (ordersOf s.fs) f.base (f.uns.take 64) = f.now := by
  have hl : f.uns.length ≤ 64 := Nat.le_trans (uns_len (h.ords f hf) (fun c hc => (h.uns f hf c hc).2)) hw
  rw [List.take_of_length_le hl, h.now f hf]
  unfold surv
  have hk : ∀ c ∈ f.uns, keeps 18446744073709551615 (ordersOf s.fs) c = true := by
    intro c hc
    have hc2 := (h.uns f hf c hc).2
    have hb := below_len (orders_nodup h) c.ord
    unfold keeps posOf
    rw [show (18446744073709551615 : Nat) = 2 ^ 64 - 1 from rfl, Nat.testBit_two_pow_sub_one]
    simp only [decide_eq_true_eq]
    omega
  generalize f.uns = l at hk
  generalize f.base = b
  clear hl
  induction l generalizing b with
  | nil => rfl
  | cons c r ih =>
    rw [List.foldl_cons, List.foldl_cons, if_pos (hk c (by simp))]
    exact ih (fun c hc => hk c (by simp [hc])) _
theorem left_all {s : St} {cs : List Ch} {is : List Nat} (hs : Wf s) (h64 : s.writes ≤ 64) (hp : is.Perm (namedIx s.fs)) (hw : Wf (leftSt s 18446744073709551615 cs is)) : filesOf (leftSt s 18446744073709551615 cs is) = filesOf s := by
  refine files_eq (left_names hs hp hw) fun n hn => ?_
  obtain ⟨i, f, hf, hne, rfl⟩ := names_iff.1 hn
  rw [left_now hs hp hw hf hne, nowAt_self hs hf hne, surv_all hs h64 (List.mem_of_getElem? hf)]
theorem left_again {s : St} {which : Nat} {cs : List Ch} {is : List Nat} (hs : Wf s) (hu : ∀ f ∈ s.fs, f.uns = []) (hp : is.Perm (namedIx s.fs)) (hw : Wf (leftSt s which cs is)) : filesOf (leftSt s which cs is) = filesOf s := by
  refine files_eq (left_names hs hp hw) fun n hn => ?_
  obtain ⟨i, f, hf, hne, rfl⟩ := names_iff.1 hn
  have hm := List.mem_of_getElem? hf
  rw [left_now hs hp hw hf hne, nowAt_self hs hf hne, hs.now f hm, hu f hm]
  rfl
theorem left_uns {s : St} {which : Nat} {cs : List Ch} {is : List Nat} (hp : is.Perm (namedIx s.fs)) : ∀ f ∈ (leftSt s which cs is).fs, f.uns = [] := by
  intro f hf
  obtain ⟨i, hi, rfl⟩ := List.mem_map.1 hf
  have hm := hp.mem_iff.1 hi
  unfold namedIx at hm
  obtain ⟨hi2, _⟩ := List.mem_filter.1 hm
  rw [leftF_at (List.getElem?_eq_getElem (List.mem_range.1 hi2))]
end Go.Proofs.YtpkhghjmelgpeaaGreat.Wk
set_option linter.unusedVariables false
namespace Go.Proofs.YtpkhghjmelgpeaaGreat.M

def crash : Ch := ⟨5, 0, noS⟩
/-- An act does not look at what choices are left, and kills no world. -/
def Blind (act : St → Ch → Dd → St × Dd) : Prop := ∀ (s : St) (c : Ch) (d : Dd) (X : List Ch), act { s with ch := X } c d = ({ (act s c d).1 with ch := X }, (act s c d).2) ∧ (act s c d).1.dead = s.dead
theorem blind_open (name : ByteArray) (m : Int) : Blind (actOpen name m) := by
  intro s c d X
  have hr : refuses { s with ch := X } name m = refuses s name m := rfl
  unfold actOpen
  rw [hr]
  by_cases h : refuses s name m ≠ 0
  · rw [if_pos h, if_pos h]; exact ⟨rfl, rfl⟩
  · rw [if_neg h, if_neg h]
    have hm : made { s with ch := X } name = ({ (made s name).1 with ch := X }, (made s name).2) := by
      unfold made
      show (match find s.fs name with | some i => (({ s with ch := X } : St), i) | none => _) = _
      cases find s.fs name <;> rfl
    have hd : (made s name).1.dead = s.dead := by unfold made; cases find s.fs name <;> rfl
    rw [hm]
    cases hq : made s name with
    | mk s1 i =>
      rw [hq] at hd
      simp only at hd ⊢
      by_cases h2 : m = 2
      · rw [if_pos h2, if_pos h2]; exact ⟨rfl, hd⟩
      · rw [if_neg h2, if_neg h2]; exact ⟨rfl, hd⟩
theorem blind_onFile {do_ : St → Dd → Nat → Int → Nat → St × Dd} (h : ∀ s d i m a (X : List Ch), do_ { s with ch := X } d i m a = ({ (do_ s d i m a).1 with ch := X }, (do_ s d i m a).2) ∧ (do_ s d i m a).1.dead = s.dead) : Blind (onFile do_) := by
  intro s c d X
  unfold onFile
  show (match hdOf s.hs d.handle with | .file false i mode at_ => _ | .file true _ _ _ => _ | _ => _) = _ ∧ _
  cases hh : hdOf s.hs d.handle with
  | closed => exact ⟨rfl, rfl⟩
  | host st => exact ⟨rfl, rfl⟩
  | file st i m a => cases st; exact h s d i m a X; exact ⟨rfl, rfl⟩
theorem blind_read (n : Int) : Blind (onFile (actRead n)) := blind_onFile fun s d i m a X => by
  unfold actRead
  by_cases h1 : m ≠ 1
  · rw [if_pos h1, if_pos h1]; exact ⟨rfl, rfl⟩
  · rw [if_neg h1, if_neg h1]
    by_cases h2 : n < 0
    · rw [if_pos h2, if_pos h2]; exact ⟨rfl, rfl⟩
    · rw [if_neg h2, if_neg h2]; exact ⟨rfl, rfl⟩
theorem blind_write (t : ByteArray) : Blind (onFile (actWrite t)) := blind_onFile fun s d i m a X => by
  unfold actWrite
  by_cases h1 : m = 1
  · rw [if_pos h1, if_pos h1]; exact ⟨rfl, rfl⟩
  · rw [if_neg h1, if_neg h1]
    simp only
    generalize (if m = 3 then (nowOf s.fs i).length else a) = p
    by_cases h2 : 4194304 < p + t.size
    · rw [if_pos h2, if_pos h2]; exact ⟨rfl, rfl⟩
    · rw [if_neg h2, if_neg h2]; exact ⟨rfl, rfl⟩
theorem blind_seek (n : Int) : Blind (onFile (actSeek n)) := blind_onFile fun s d i m a X => by
  unfold actSeek
  show (if n < 0 ∨ ((nowOf s.fs i).length : Int) < n then _ else _) = _ ∧ _
  by_cases h1 : n < 0 ∨ ((nowOf s.fs i).length : Int) < n
  · rw [if_pos h1, if_pos h1]; exact ⟨rfl, rfl⟩
  · rw [if_neg h1, if_neg h1]; exact ⟨rfl, rfl⟩
theorem blind_sync : Blind (onFile actSync) := blind_onFile fun s d i m a X => ⟨rfl, rfl⟩
theorem blind_close (n : Int) : Blind (actClose n) := by
  intro s c d X
  unfold actClose
  show (match hdOf s.hs n with | .closed => _ | .file true _ _ _ => _ | .host true => _ | _ => _) = _ ∧ _
  cases hh : hdOf s.hs n with
  | closed => exact ⟨rfl, rfl⟩
  | host st => cases st <;> exact ⟨rfl, rfl⟩
  | file st i m a => cases st <;> exact ⟨rfl, rfl⟩
theorem blind_rename (a b : ByteArray) : Blind (actRename a b) := by
  intro s c d X
  unfold actRename
  by_cases h1 : isName a = false ∨ isName b = false
  · rw [if_pos h1, if_pos h1]; exact ⟨rfl, rfl⟩
  · rw [if_neg h1, if_neg h1]
    show (match find s.fs a with | none => _ | some i => _) = _ ∧ _
    cases find s.fs a with
    | none => exact ⟨rfl, rfl⟩
    | some i =>
      simp only
      by_cases h2 : a = b
      · rw [if_pos h2, if_pos h2]; exact ⟨rfl, rfl⟩
      · rw [if_neg h2, if_neg h2]; exact ⟨rfl, rfl⟩
theorem blind_delete (a : ByteArray) : Blind (actDelete a) := by
  intro s c d X
  unfold actDelete
  by_cases h1 : isName a = false
  · rw [if_pos h1, if_pos h1]; exact ⟨rfl, rfl⟩
  · rw [if_neg h1, if_neg h1]
    show (match find s.fs a with | none => _ | some i => _) = _ ∧ _
    cases find s.fs a <;> exact ⟨rfl, rfl⟩
theorem blind_clock : Blind actClock := fun s c d X => ⟨rfl, rfl⟩
theorem blind_connect (h : ByteArray) : Blind (actConnect h) := by
  intro s c d X
  unfold actConnect
  by_cases h1 : isName h = false
  · rw [if_pos h1, if_pos h1]; exact ⟨rfl, rfl⟩
  · rw [if_neg h1, if_neg h1]
    by_cases h2 : c.kind ≠ 2 ∨ c.text ≠ h
    · rw [if_pos h2, if_pos h2]; exact ⟨rfl, rfl⟩
    · rw [if_neg h2, if_neg h2]
      by_cases h3 : chosen c 2 ≠ 0
      · rw [if_pos h3, if_pos h3]; exact ⟨rfl, rfl⟩
      · rw [if_neg h3, if_neg h3]
        show (if live s.hs = 32 then _ else _) = _ ∧ _
        by_cases h4 : live s.hs = 32
        · rw [if_pos h4, if_pos h4]; exact ⟨rfl, rfl⟩
        · rw [if_neg h4, if_neg h4]; exact ⟨rfl, rfl⟩
theorem blind_send (n : Int) : Blind (actSend n) := fun s c d X => ⟨rfl, rfl⟩
theorem blind_receive (n m : Int) : Blind (actReceive n m) := by
  intro s c d X
  unfold actReceive
  show (if hostErr s.hs n ≠ 0 then _ else _) = _ ∧ _
  by_cases h1 : hostErr s.hs n ≠ 0
  · rw [if_pos h1, if_pos h1]; exact ⟨rfl, rfl⟩
  · rw [if_neg h1, if_neg h1]
    by_cases h2 : m < 0
    · rw [if_pos h2, if_pos h2]; exact ⟨rfl, rfl⟩
    · rw [if_neg h2, if_neg h2]
      by_cases h3 : chosen c 3 ≠ 0
      · rw [if_pos h3, if_pos h3]; exact ⟨rfl, rfl⟩
      · rw [if_neg h3, if_neg h3]
        by_cases h4 : c.kind = 3
        · rw [if_pos h4, if_pos h4]; exact ⟨rfl, rfl⟩
        · rw [if_neg h4, if_neg h4]; exact ⟨rfl, rfl⟩
theorem blind_none : Blind actNone := fun s c d X => ⟨rfl, rfl⟩

/-- s is v with a crash behind its choices; v lives and has no crash ahead. -/
structure CrTwin (s v : St) : Prop where
  eq : s = { v with ch := v.ch ++ [crash] }
  alive : v.dead = false
  calm : ∀ c ∈ v.ch, c.kind ≠ 5
end Go.Proofs.YtpkhghjmelgpeaaGreat.M
set_option linter.unusedVariables false
namespace Go.Proofs.YtpkhghjmelgpeaaGreat.Wk
open Go.ChangeShapes Go.WideShapes Go.ChangeAt Go.RowKit M Go.Maps Go.Proofs

theorem cellsFl : Tryz.prog.cellsOf 74 = 2 := by kernel_rfl
theorem cellsStr : Tryz.prog.cellsOf 9 = 1 := by kernel_rfl
theorem spot_none {w : World} {a : Addr} {v : Value} (h : w.cell? a = some v) : ∃ b off, a = ⟨b, off, none⟩ := by
  obtain ⟨b, off, sp⟩ := a
  cases sp with
  | none => exact ⟨b, off, rfl⟩
  | some n =>
    unfold World.cell? at h
    split at h
    · simp at h
    · cases h
theorem addr_add (b off j : Nat) : (⟨b, off, none⟩ : Addr).add j = ⟨b, off + j, none⟩ := by
  unfold Addr.add; split
  · rename_i h; subst h; rfl
  · rfl
theorem cell_lt {w : World} {a : Addr} {v : Value} (h : w.cell? a = some v) : a.block < w.heap.size := by
  rcases Nat.lt_or_ge a.block w.heap.size with h1 | h1
  · exact h1
  · unfold World.cell? at h
    rw [Array.getElem?_eq_none h1] at h
    simp at h
set_option maxRecDepth 100000 in
/-- A list of files that came in. -/
theorem open_files {H : Type} {enc : TypeId × Value → H} {w : World} {base : Nat} {v : Value} {d : DataW H} {p : List MemPlace} (hv : Value.okWide Tryz.prog w .any base 23 v) (h : DataW.Trod enc Tryz.prog w 0 (fun _ => true) true 23 v d p) :
    ∃ F : List (ByteArray × ByteArray), FlS w v F ∧ F.length ≤ maxLen ∧ ∀ x ∈ F, x.1.size ≤ maxLen ∧ x.2.size ≤ maxLen := by
  obtain ⟨a0, len0, cap0, rfl⟩ := okWide_slice Tryz.underlying23 hv
  obtain ⟨m, hm⟩ := h
  have hcs : (Value.slice a0 len0 cap0).cells.toList = [.slice a0 len0 cap0] := rfl
  rw [hcs] at hm
  rcases Go.Deep.open_slice_pairs Tryz.underlying23 Tryz.underlying74 cellsFl rfl rfl cellsStr cellsStr hm with ⟨h1, _⟩ | ⟨a, len, cap, mm, n, V0, V1, D0, D1, P0, P1, h1, _, hl, hcm, hmm, _, hx⟩
  · injection h1 with h1 _
    injection h1 with e1 e2 e3
    subst e1 e2 e3
    exact ⟨[], ⟨none, 0, rfl, fun k x hx => by simp at hx⟩, Nat.zero_le _, fun x hx => by cases hx⟩
  · injection h1 with h1 _
    injection h1 with e1 e2 e3
    subst e1 e2 e3
    simp only [if_true] at hmm
    have hget : ∀ i, i < len0 → ∃ s t : ByteArray, V0 i = .string s ∧ V1 i = .string t ∧ s.size ≤ maxLen ∧ t.size ≤ maxLen := by
      intro i hi
      obtain ⟨_, _, h2, h3⟩ := hx i (by omega)
      obtain ⟨s, e1, _, b1⟩ := DataW.trod_string Tryz.underlying9 h2
      obtain ⟨t, e2, _, b2⟩ := DataW.trod_string Tryz.underlying9 h3
      injection e1 with e1 _
      injection e2 with e2 _
      exact ⟨s, t, e1, e2, b1, b2⟩
    obtain ⟨f, hf⟩ := Go.Deep.choose_lt (α := ByteArray × ByteArray) (p := fun i q => V0 i = .string q.1 ∧ V1 i = .string q.2 ∧ q.1.size ≤ maxLen ∧ q.2.size ≤ maxLen) (n := len0) (fun i hi => by
      obtain ⟨s, t, h⟩ := hget i hi; exact ⟨(s, t), h⟩)
    refine ⟨(List.range len0).map f, ⟨some a, cap0, by simp, fun k x hk => ?_⟩, by simp; omega, fun x hk => ?_⟩
    · have hkl : k < len0 := by have := (List.getElem?_eq_some_iff.1 hk).1; simpa using this
      rw [List.getElem?_map, List.getElem?_range hkl] at hk
      simp at hk; subst hk
      obtain ⟨c0, c1, _, _⟩ := hx k (by omega)
      obtain ⟨b0, _, _, _⟩ := hx 0 (by omega)
      rw [show a.add (0 * 2) = a from rfl] at b0
      obtain ⟨b, off, rfl⟩ := spot_none b0
      rw [addr_add] at c0 c1
      rw [(hf k hkl).1] at c0
      rw [(hf k hkl).2.1] at c1
      exact ⟨b, off, rfl, c0, c1⟩
    · obtain ⟨i, hi, rfl⟩ := List.mem_map.1 hk
      have hil := List.mem_range.1 hi
      exact ⟨(hf i hil).2.2.1, (hf i hil).2.2.2⟩

theorem tl_eq {a b : ByteArray} : a.toList = b.toList ↔ a = b := by
  rw [ByteArray.toList_eq, ByteArray.toList_eq]
  exact ⟨strOf_inj, fun e => by rw [e]⟩

theorem cellsCh : Tryz.prog.cellsOf 63 = 3 := by kernel_rfl
theorem cellsAct : Tryz.prog.cellsOf 53 = 5 := by kernel_rfl
theorem cellsI64 : Tryz.prog.cellsOf 2 = 1 := by kernel_rfl
theorem cellsInt0 : Tryz.prog.cellsOf 3 = 1 := by kernel_rfl
theorem cellsKind : Tryz.prog.cellsOf 61 = 1 := by kernel_rfl
theorem flat_split {α β : Type} (f : α → List β) (z : Nat) (hz : ∀ x, (f x).length = z) : ∀ (l : List α) (j : Nat) (u : β), (l.flatMap f)[j]? = some u → ∃ i r c, l[i]? = some c ∧ r < z ∧ j = i * z + r ∧ (f c)[r]? = some u := by
  intro l
  induction l with
  | nil => intro j u h; simp at h
  | cons a t ih =>
    intro j u h
    rw [List.flatMap_cons] at h
    by_cases hj : j < z
    · rw [List.getElem?_append_left (by rw [hz]; exact hj)] at h
      exact ⟨0, j, a, rfl, hj, by omega, h⟩
    · rw [List.getElem?_append_right (by rw [hz]; omega), hz] at h
      obtain ⟨i, r, c, h1, h2, h3, h4⟩ := ih _ u h
      exact ⟨i + 1, r, c, by simpa using h1, h2, by rw [Nat.add_mul]; omega, h4⟩
theorem flat_length {α β : Type} (f : α → List β) (z : Nat) (hz : ∀ x, (f x).length = z) : ∀ (l : List α), (l.flatMap f).length = l.length * z := by
  intro l
  induction l with
  | nil => simp
  | cons a t ih => rw [List.flatMap_cons, List.length_append, ih, hz, List.length_cons, Nat.add_mul]; omega
theorem weights_all {H : Type} {P : Program} {e : TypeId} {d : DataW H} : ∀ {l : List (DataW H)}, d ∈ l → ∀ {b : Nat}, b ∈ DataW.weights P e d → b ∈ DataW.weightsAll P e l := by
  intro l
  induction l with
  | nil => intro h; cases h
  | cons x r ih =>
    intro h b hb
    simp only [DataW.weightsAll, List.mem_append]
    rcases List.mem_cons.1 h with e1 | e1
    · subst e1; exact .inl hb
    · exact .inr (ih e1 hb)
/-- A slice of structs of z one-cell fields, opened. -/
theorem open_structs {H : Type} {enc : TypeId × Value → H} {P : Program} {w : World} {t e : TypeId} {fs : Array Field} {z fuel : Nat} {cs : List Value} {x : DataW H × List MemPlace} (ht : P.underlying t = some (.slice e)) (he : P.underlying e = some (.struct fs)) (hz : P.cellsOf e = z) (h0 : 0 < z)
    (h : DataW.trod enc P w 0 (fun _ => true) true fuel t cs = some x) :
    cs = [.slice none 0 0] ∨ ∃ (a : Addr) (len cap : Nat), cs = [.slice (some a) len cap] ∧ len ≤ cap ∧ cap ≤ maxLen ∧ Go.Joins.sliceLen x.1 = len ∧
      ∀ i, i < len → ∃ vs : List Value, vs.length = z ∧ (∀ j, j < z → w.cell? (a.add (i * z + j)) = vs[j]?) ∧ ∀ (q : Nat) (f : Field), fs[q]? = some f → ∃ n y, DataW.trod enc P w 0 (fun _ => true) true n f.type ((vs.drop f.offset).take (P.cellsOf f.type)) = some y ∧ ∀ b ∈ DataW.weights P f.type y.1, b ∈ DataW.weights P t x.1 := by
  rcases Go.Deep.open_slice ht h with ⟨h1, _⟩ | ⟨a, len, cap, m, n, D, Pl, rfl, _, hl, hm, hmm, hxx, hx⟩
  · exact .inl h1
  · refine .inr ⟨a, len, cap, rfl, hl, hm, ?_, fun i hi => ?_⟩
    · rw [hxx]; simp [Go.Joins.sliceLen]
    · simp only [if_true] at hmm
      obtain ⟨cs', h1, h2⟩ := hx i (by omega)
      rw [hz] at h1
      obtain ⟨_, hlen, hcell⟩ := World.cells?_some h1
      obtain ⟨xs, k, _, hxy, _, hxl, hf⟩ := DataW.trod_struct he h2
      refine ⟨cs', hlen, fun j hj => ?_, fun q f hq => ?_⟩
      · have := hcell j hj
        rw [Go.Deep.add_add] at this; exact this
      · have hql : q < fs.size := (Array.getElem?_eq_some_iff.1 hq).1
        obtain ⟨y, hy⟩ : ∃ y, xs[q]? = some y := ⟨_, List.getElem?_eq_getElem (by omega)⟩
        refine ⟨k, y, (hf q f hq).trans hy, fun b hb => ?_⟩
        rw [hxx]
        simp only [DataW.weights, ht]
        refine List.mem_cons_of_mem _ (List.mem_append_left _ (weights_all (d := D i) (List.mem_map.2 ⟨i, List.mem_range.2 hi, rfl⟩) ?_))
        rw [show D i = .agg (xs.map (·.1)) from congrArg Prod.fst hxy]
        simp only [DataW.weights, he]
        exact DataW.weights_mem_each (j := q) (t := f.type) (d := y.1) (by rw [List.getElem?_map, Array.getElem?_toList, hq]; rfl) (by rw [List.getElem?_map, hy]; rfl) b hb

instance : Inhabited Ch := ⟨noCh⟩
set_option maxRecDepth 100000 in
/-- A list of choices that came in. -/
theorem open_choices {H : Type} {enc : TypeId × Value → H} {w : World} {base : Nat} {v : Value} {d : DataW H} {p : List MemPlace} (hv : Value.okWide Tryz.prog w .any base 22 v) (h : DataW.Trod enc Tryz.prog w 0 (fun _ => true) true 22 v d p) :
    ∃ l : List Ch, Rd w 3 v l.length (l.flatMap chcells) ∧ l.length ≤ maxLen ∧ l.length ≤ Go.Joins.sliceLen d ∧ (∀ a n c, v = .slice a n c → n = l.length ∧ n ≤ c) ∧ ∀ x ∈ l, 0 ≤ x.kind ∧ x.kind ≤ 255 ∧ (Lit.int .i64 x.n).wf = true ∧ x.text.size ≤ maxLen ∧ x.text.size ∈ DataW.weights Tryz.prog 22 d := by
  obtain ⟨a0, len0, cap0, rfl⟩ := okWide_slice Tryz.underlying22 hv
  obtain ⟨m, hm⟩ := h
  have hcs : (Value.slice a0 len0 cap0).cells.toList = [.slice a0 len0 cap0] := rfl
  rw [hcs] at hm
  rcases open_structs Tryz.underlying22 Tryz.underlying63 cellsCh (by decide) hm with h1 | ⟨a, len, cap, h1, hl, hcm, hsl, hx⟩
  · injection h1 with h1 _
    injection h1 with e1 e2 e3
    subst e1 e2 e3
    exact ⟨[], ⟨none, 0, rfl, rfl, fun j u hu => by simp at hu⟩, Nat.zero_le _, Nat.zero_le _, (fun a n c e => by injection e with e1 e2 e3; subst e2; exact ⟨rfl, Nat.zero_le _⟩), fun x hx => by cases hx⟩
  · injection h1 with h1 _
    injection h1 with e1 e2 e3
    subst e1 e2 e3
    have hget : ∀ i, i < len0 → ∃ c : Ch, (∀ j u, (chcells c)[j]? = some u → w.cell? (a.add (i * 3 + j)) = some u) ∧ 0 ≤ c.kind ∧ c.kind ≤ 255 ∧ (Lit.int .i64 c.n).wf = true ∧ c.text.size ≤ maxLen ∧ c.text.size ∈ DataW.weights Tryz.prog 22 d := by
      intro i hi
      obtain ⟨vs, hvl, hc, hf⟩ := hx i hi
      match vs, hvl with
      | [v0, v1, v2], _ =>
        obtain ⟨n0, y0, g0, w0⟩ := hf 0 _ rfl
        obtain ⟨n1, y1, g1, w1⟩ := hf 1 _ rfl
        obtain ⟨n2, y2, g2, w2⟩ := hf 2 _ rfl
        change DataW.trod _ _ _ _ _ _ _ 61 (([v0, v1, v2].drop 0).take (Tryz.prog.cellsOf 61)) = _ at g0
        rw [cellsKind] at g0
        change DataW.trod _ _ _ _ _ _ _ 2 (([v0, v1, v2].drop 1).take (Tryz.prog.cellsOf 2)) = _ at g1
        rw [cellsI64] at g1
        change DataW.trod _ _ _ _ _ _ _ 9 (([v0, v1, v2].drop 2).take (Tryz.prog.cellsOf 9)) = _ at g2
        rw [cellsStr] at g2
        obtain ⟨z0, e0, _, b0⟩ := DataW.trod_int Tryz.underlying61 g0
        obtain ⟨z1, e1, _, b1⟩ := DataW.trod_int Tryz.underlying2 g1
        obtain ⟨z2, e2, f2, b2⟩ := DataW.trod_string Tryz.underlying9 g2
        injection e0 with e0 _
        injection e1 with e1 _
        injection e2 with e2 _
        have hw := w2 z2.size (by rw [f2]; simp [DataW.weights])
        obtain ⟨k0, k1⟩ := bounds_u8 b0
        refine ⟨⟨z0, z1, z2⟩, fun j u hj => ?_, k0, k1, b1, b2, hw⟩
        have hj3 : j < 3 := by have := (List.getElem?_eq_some_iff.1 hj).1; simpa [chcells] using this
        rw [hc j hj3, ← hj]
        match j, hj3 with
        | 0, _ => simp [chcells, e0]
        | 1, _ => simp [chcells, e1]
        | 2, _ => simp [chcells, e2]
    obtain ⟨f, hf⟩ := Go.Deep.choose_lt (α := Ch) (p := fun i c => (∀ j u, (chcells c)[j]? = some u → w.cell? (a.add (i * 3 + j)) = some u) ∧ 0 ≤ c.kind ∧ c.kind ≤ 255 ∧ (Lit.int .i64 c.n).wf = true ∧ c.text.size ≤ maxLen ∧ c.text.size ∈ DataW.weights Tryz.prog 22 d) (n := len0) hget
    have hll : ((List.range len0).map f).length = len0 := by simp
    refine ⟨(List.range len0).map f, ⟨some a, cap0, by rw [hll], ?_, fun j u hj => ⟨a, rfl, ?_⟩⟩, by rw [hll]; omega, by rw [hll]; exact Nat.le_of_eq hsl.symm, (fun a n c e => by injection e with e1 e2 e3; subst e2 e3; rw [hll]; exact ⟨rfl, hl⟩), fun x hk => ?_⟩
    · exact flat_length chcells 3 (fun _ => rfl) _
    · obtain ⟨i, r, c, hi, hr, rfl, hcu⟩ := flat_split chcells 3 (fun _ => rfl) ((List.range len0).map f) j u hj
      rw [List.getElem?_map] at hi
      have hil : i < len0 := by
        rcases Nat.lt_or_ge i len0 with h | h
        · exact h
        · rw [List.getElem?_eq_none (by simpa using h)] at hi; cases hi
      rw [List.getElem?_range hil] at hi
      simp at hi; subst hi
      exact (hf i hil).1 r u hcu
    · obtain ⟨i, hi, rfl⟩ := List.mem_map.1 hk
      exact (hf i (List.mem_range.1 hi)).2

/-- An act: a call that a law is asked to do. -/
structure Ac where
  kind : Int
  name : ByteArray
  text : ByteArray
  h : Int
  n : Int
instance : Inhabited Ac := ⟨⟨0, noS, noS, 0, 0⟩⟩
def accells (x : Ac) : List Value := [.int .i64 x.kind, .string x.name, .string x.text, .int .i64 x.h, .int .i64 x.n]
def okAc (x : Ac) : Prop := (Lit.int .i64 x.kind).wf = true ∧ x.name.size ≤ maxLen ∧ x.text.size ≤ maxLen ∧ (Lit.int .i64 x.h).wf = true ∧ (Lit.int .i64 x.n).wf = true
def ActS (w : World) (v : Value) (l : List Ac) : Prop :=
  ∃ a c, v = .slice a l.length c ∧ ∀ (k : Nat) x, l[k]? = some x → ∃ b off, a = some ⟨b, off, none⟩ ∧ b < w.heap.size ∧ ∀ j u, (accells x)[j]? = some u → w.cell? ⟨b, off + (k * 5 + j), none⟩ = some u
set_option maxRecDepth 100000 in
/-- A list of acts that came in. -/
theorem open_acts {H : Type} {enc : TypeId × Value → H} {w : World} {base : Nat} {v : Value} {d : DataW H} {p : List MemPlace} (hv : Value.okWide Tryz.prog w .any base 24 v) (h : DataW.Trod enc Tryz.prog w 0 (fun _ => true) true 24 v d p) :
    ∃ l : List Ac, ActS w v l ∧ l.length ≤ maxLen ∧ l.length ≤ Go.Joins.sliceLen d ∧ ∀ x ∈ l, okAc x := by
  obtain ⟨a0, len0, cap0, rfl⟩ := okWide_slice Tryz.underlying24 hv
  obtain ⟨m, hm⟩ := h
  have hcs : (Value.slice a0 len0 cap0).cells.toList = [.slice a0 len0 cap0] := rfl
  rw [hcs] at hm
  rcases open_structs Tryz.underlying24 Tryz.underlying53 cellsAct (by decide) hm with h1 | ⟨a, len, cap, h1, hl, hcm, hsl, hx⟩
  · injection h1 with h1 _
    injection h1 with e1 e2 e3
    subst e1 e2 e3
    exact ⟨[], ⟨none, 0, rfl, fun k x hx => by simp at hx⟩, Nat.zero_le _, Nat.zero_le _, fun x hx => by cases hx⟩
  · injection h1 with h1 _
    injection h1 with e1 e2 e3
    subst e1 e2 e3
    have hget : ∀ i, i < len0 → ∃ c : Ac, (∀ j u, (accells c)[j]? = some u → w.cell? (a.add (i * 5 + j)) = some u) ∧ okAc c := by
      intro i hi
      obtain ⟨vs, hvl, hc, hf⟩ := hx i hi
      match vs, hvl with
      | [v0, v1, v2, v3, v4], _ =>
        obtain ⟨n0, y0, g0, w0⟩ := hf 0 _ rfl
        obtain ⟨n1, y1, g1, w1⟩ := hf 1 _ rfl
        obtain ⟨n2, y2, g2, w2⟩ := hf 2 _ rfl
        obtain ⟨n3, y3, g3, w3⟩ := hf 3 _ rfl
        obtain ⟨n4, y4, g4, w4⟩ := hf 4 _ rfl
        change DataW.trod _ _ _ _ _ _ _ 3 (([v0, v1, v2, v3, v4].drop 0).take (Tryz.prog.cellsOf 3)) = _ at g0
        rw [cellsInt0] at g0
        change DataW.trod _ _ _ _ _ _ _ 9 (([v0, v1, v2, v3, v4].drop 1).take (Tryz.prog.cellsOf 9)) = _ at g1
        rw [cellsStr] at g1
        change DataW.trod _ _ _ _ _ _ _ 9 (([v0, v1, v2, v3, v4].drop 2).take (Tryz.prog.cellsOf 9)) = _ at g2
        rw [cellsStr] at g2
        change DataW.trod _ _ _ _ _ _ _ 3 (([v0, v1, v2, v3, v4].drop 3).take (Tryz.prog.cellsOf 3)) = _ at g3
        rw [cellsInt0] at g3
        change DataW.trod _ _ _ _ _ _ _ 2 (([v0, v1, v2, v3, v4].drop 4).take (Tryz.prog.cellsOf 2)) = _ at g4
        rw [cellsI64] at g4
        obtain ⟨z0, e0, _, b0⟩ := DataW.trod_int Tryz.underlying3 g0
        obtain ⟨z1, e1, _, b1⟩ := DataW.trod_string Tryz.underlying9 g1
        obtain ⟨z2, e2, _, b2⟩ := DataW.trod_string Tryz.underlying9 g2
        obtain ⟨z3, e3, _, b3⟩ := DataW.trod_int Tryz.underlying3 g3
        obtain ⟨z4, e4, _, b4⟩ := DataW.trod_int Tryz.underlying2 g4
        injection e0 with e0 _
        injection e1 with e1 _
        injection e2 with e2 _
        injection e3 with e3 _
        injection e4 with e4 _
        refine ⟨⟨z0, z1, z2, z3, z4⟩, fun j u hj => ?_, b0, b1, b2, b3, b4⟩
        have hj5 : j < 5 := by have := (List.getElem?_eq_some_iff.1 hj).1; simpa [accells] using this
        rw [hc j hj5, ← hj]
        match j, hj5 with
        | 0, _ => simp [accells, e0]
        | 1, _ => simp [accells, e1]
        | 2, _ => simp [accells, e2]
        | 3, _ => simp [accells, e3]
        | 4, _ => simp [accells, e4]
    obtain ⟨f, hf⟩ := Go.Deep.choose_lt (α := Ac) (p := fun i c => (∀ j u, (accells c)[j]? = some u → w.cell? (a.add (i * 5 + j)) = some u) ∧ okAc c) (n := len0) hget
    have hll : ((List.range len0).map f).length = len0 := by simp
    refine ⟨(List.range len0).map f, ⟨some a, cap0, by rw [hll], fun k x hk => ?_⟩, by rw [hll]; omega, by rw [hll]; exact Nat.le_of_eq hsl.symm, fun x hk => ?_⟩
    · have hkl : k < len0 := by have := (List.getElem?_eq_some_iff.1 hk).1; simpa using this
      rw [List.getElem?_map, List.getElem?_range hkl] at hk
      simp at hk; subst hk
      have b0 := (hf 0 (by omega)).1 0 _ rfl
      rw [show a.add (0 * 5 + 0) = a from rfl] at b0
      obtain ⟨b, off, rfl⟩ := spot_none b0
      refine ⟨b, off, rfl, cell_lt b0, fun j u hj => ?_⟩
      have := (hf k hkl).1 j u hj
      rw [addr_add] at this
      exact this
    · obtain ⟨i, hi, rfl⟩ := List.mem_map.1 hk
      exact (hf i (List.mem_range.1 hi)).2
end Go.Proofs.YtpkhghjmelgpeaaGreat.Wk
set_option linter.unusedVariables false
namespace Go.Proofs.YtpkhghjmelgpeaaGreat.Sh
open Go.Shelf Go.RowKit
def ren : Go.Shelf.Ren := ⟨fun | 316 => 133 | n => n, fun | 0 => 0 | 3 => 3 | 4 => 4 | 5 => 5 | 9 => 9 | 20 => 20 | 37 => 92 | 80 => 220 | 127 => 192 | 164 => 233 | n => n, fun | n => n⟩
theorem lays316 : Go.Proofs.LaysM.n316 Tryz.prog ren := {
  mixed := by kernel_rfl
  f316 := Tryz.func133.trans (congrArg some (by kernel_rfl))
  t0 := Tryz.underlying0
  a0 := Tryz.isAgg0
  z0 := Tryz.sizeOf0
  v0 := Tryz.zeroValue0
  t3 := Tryz.underlying3
  a3 := Tryz.isAgg3
  z3 := Tryz.sizeOf3
  v3 := Tryz.zeroValue3
  t4 := Tryz.underlying4
  a4 := Tryz.isAgg4
  z4 := Tryz.sizeOf4
  v4 := Tryz.zeroValue4
  t9 := Tryz.underlying9
  a9 := Tryz.isAgg9
  z9 := Tryz.sizeOf9
  v9 := Tryz.zeroValue9
  t37 := Tryz.underlying92
  a37 := Tryz.isAgg92
  z37 := Tryz.sizeOf92
  v37 := Tryz.zeroValue92
  t127 := Tryz.underlying192
  a127 := Tryz.isAgg192
  z127 := Tryz.sizeOf192
  v127 := Tryz.zeroValue192
  t5 := Tryz.underlying5
  a5 := Tryz.isAgg5
  z5 := Tryz.sizeOf5
  v5 := Tryz.zeroValue5
  i0 := by kernel_rfl
  i3 := by kernel_rfl
  i4 := by kernel_rfl
  i5 := by kernel_rfl
  i9 := by kernel_rfl
  i37 := by kernel_rfl
  i127 := by kernel_rfl }
theorem Clone (s : ByteArray) (w : World) (hlim : s.size ≤ 281474976710656) :
    Calls Tryz.prog 133 #[.string s] w fun e w' => e = .returned (.string s) ∧ Below w.heap.size w w' := Any.stringslite_Clone lays316 s w hlim
end Go.Proofs.YtpkhghjmelgpeaaGreat.Sh
set_option linter.unusedVariables false
namespace Go.Proofs.YtpkhghjmelgpeaaGreat.Wk
open Go.ChangeShapes Go.WideShapes Go.ChangeAt Go.RowKit M Go.Maps Go.Proofs

theorem delete_fmap {own : Own} {w : World} {p : Nat} {s : St} {g : Gh} (h : Rep own w p s g) {a : ByteArray} {i : Nat} (ha : find s.fs a = some i) (has : a.size ≤ maxLen) : FMap (g.Df.del (skey a)) (setN s.fs i noS) g.fb := by
  have hT := h.fmap.tidy lawS
  refine ⟨fun t ht => ?_, ?_⟩
  · rw [find_un h.wf.names ha]
    by_cases e1 : t = a
    · subst e1; rw [if_pos rfl]; exact ⟨Maps.atKey_del_same _, Maps.has_del_same⟩
    · rw [if_neg e1, Maps.atKey_del_other (skey_ne e1), Maps.has_del_other (skey_ne e1)]
      exact h.fis.at_ t ht
  · have h5 := Maps.size_del (k := skey a) hT
    rw [(h.fis.at_ a has).2, ha, h.fis.size] at h5
    simp only [Option.isSome_some, if_true] at h5
    have := named_un ha
    omega

set_option maxHeartbeats 8000000 in
set_option maxRecDepth 100000 in
theorem Delete1_does (own : Own) (w : World) (p : Nat) (s : St) (a : ByteArray) (ab wb : Nat) (hab : w.heap[ab]? = some (.cells #[.string a] 9 (0, 0))) (hao : own ab = none)
    (hwb : w.heap[wb]? = some (.cells #[.pointer (some ⟨p, 0, none⟩)] 29 (0, 0))) (hwo : own wb = none) (has : a.size ≤ maxLen) :
    Does own w p 112 #[.pointer (some ⟨ab, 0, none⟩), .pointer (some ⟨wb, 0, none⟩)] s ⟨8, 0, a, noS, 0, 0⟩ (actDelete a) := by
  intro own1 w1 g1 db k n0 t hc hR hdb hbox hF
  have hab1 := (hF.kept _ (blk_lt hab) hao (fun e => e)).trans hab
  have hwb1 := (hF.kept _ (blk_lt hwb) hwo (fun e => e)).trans hwb
  have hal1 := blk_lt hab1
  have hwl1 := blk_lt hwb1
  have hdl1 := blk_lt hbox
  obtain ⟨X, hX⟩ : ∃ X, X = w1.alloc (.cells #[.int .u8 k, .int .i64 n0, .string t] 63) := ⟨_, rfl⟩
  have hXk : ∀ q, q < w1.heap.size → X.heap[q]? = w1.heap[q]? := fun q hq => by rw [hX]; exact Below.heap_alloc _ _ _ hq
  have hRX : Rep own1 X p { s with ch := s.ch.tail } g1 ∧ Fr own1 w1 own1 X noE := by rw [hX]; exact alloc_rep hR _
  obtain ⟨hRX, hFX⟩ := hRX
  have va := cell_blk hab1 0
  have ca := cell_blk ((hXk ab hal1).trans hab1) 0
  have cw := cell_blk ((hXk wb hwl1).trans hwb1) 0
  have hbx := (hXk db hdl1).trans hbox
  have hRXd := drew_rep hRX
  have hlook := look_f hRXd a has
  have c4 : X.cell? ⟨p, 4, none⟩ = some (.map (some g1.fm)) := cell_blk hRX.wcell 4
  have hXp := blk_lt hRX.wcell
  have hXs : w1.heap.size ≤ X.heap.size := hFX.size
  have hna := isName_any a X has
  have HNA := Lib.hid hna
  clear hna
  cases hn1 : isName a
  · have HA : Hid (actDelete a { s with ch := s.ch.tail } ⟨k, n0, t⟩ ⟨8, 0, a, noS, 0, 0⟩ = ({ s with ch := s.ch.tail }, ⟨8, 0, a, noS, 0, 35⟩)) := Lib.hid (by unfold actDelete; rw [if_pos hn1])
    have HX := Lib.hid hX
    have HR := Lib.hid hRX
    have HB := Lib.hid hbx
    have HF := Lib.hid hFX
    rw [hn1] at HNA
    clear hX hRXd hRX hR hbx hbox hFX hF hwb1 hab1 hwb hab hc hXk hlook hn1
    go_enter Tryz.func112, Tryz.ntmps112
    go_wp2_with fail
    rw [← HX.out]
    refine HNA.out.mono ?_
    rintro e w' ⟨rfl, rfl⟩
    go_wp2
    go_ret
    exact ⟨own1, g1, by rw [HA.out]; rfl, by rw [HA.out]; exact HR.out, by rw [HA.out]; exact HB.out, HF.out.weak _⟩
  · rw [hn1] at HNA
    cases hf : find s.fs a with
    | none =>
      have HA : Hid (actDelete a { s with ch := s.ch.tail } ⟨k, n0, t⟩ ⟨8, 0, a, noS, 0, 0⟩ = ({ s with ch := s.ch.tail }, ⟨8, 0, a, noS, 0, 32⟩)) := Lib.hid (by unfold actDelete; rw [if_neg (by simp [hn1])]; simp only; rw [hf])
      rw [show find ({ s with ch := s.ch.tail } : St).fs a = none from hf] at hlook
      simp only [fval] at hlook
      have HX := Lib.hid hX
      have HR := Lib.hid hRXd
      have HB := Lib.hid hbx
      have HF := Lib.hid hFX
      clear hX hRXd hRX hR hbx hbox hFX hF hwb1 hab1 hwb hab hf hc hXk hn1
      go_enter Tryz.func112, Tryz.ntmps112
      go_wp2_with fail
      rw [← HX.out]
      refine HNA.out.mono ?_
      rintro e w' ⟨rfl, rfl⟩
      go_wp2
      go_region
      go_wp2
      go_ret
      exact ⟨own1, g1, by rw [HA.out]; rfl, by rw [HA.out]; exact HR.out, by rw [HA.out]; exact HB.out, (HF.out.weak _).trans (fr_drew 1 _)⟩
    | some i =>
      have HA : Hid (actDelete a { s with ch := s.ch.tail } ⟨k, n0, t⟩ ⟨8, 0, a, noS, 0, 0⟩ = ({ s with ch := s.ch.tail, fs := setN s.fs i noS }, ⟨8, 0, a, noS, 0, 0⟩)) := Lib.hid (by unfold actDelete; rw [if_neg (by simp [hn1])]; simp only; rw [hf])
      rw [show find ({ s with ch := s.ch.tail } : St).fs a = some i from hf] at hlook
      simp only [fval] at hlook
      have hRXdd := drew_rep hRXd
      obtain ⟨w2, hdel, hm2, hg2⟩ := delF_any hRXdd a has
      have hfin := names_rep hRXdd (fs' := setN s.fs i noS) (fun j f hj => get_setN hj) (wf_un (s := { s with ch := s.ch.tail }) hRXdd.wf hf) (delete_fmap hRXdd hf has) hm2 hg2
      have hdb2 : w2.heap[db]? = some (.cells (ddcells ⟨8, 0, a, noS, 0, 0⟩).toArray 82 (0, 0)) := (hg2.block db (by show db < X.heap.size; omega) (fun e => by rw [Option.some.inj e, hRX.fown] at hdb; cases hdb)).trans hbx
      have HX := Lib.hid hX
      have HF := Lib.hid hFX
      have HFIN := Lib.hid hfin
      have HD2 := Lib.hid hdb2
      have HDEL := Lib.hid hdel
      clear hX hRXd hRX hRXdd hR hbx hbox hFX hF hwb1 hab1 hwb hab hf hc hXk hn1 hfin hdel hm2 hg2 hdb2
      go_enter Tryz.func112, Tryz.ntmps112
      go_wp2_with fail
      rw [← HX.out]
      refine HNA.out.mono ?_
      rintro e w' ⟨rfl, rfl⟩
      go_wp2
      go_region
      go_wp2
      have HDEL' := HDEL.out
      go_region
      clear HDEL'
      go_wp2
      go_ret
      obtain ⟨z1, z2⟩ := HFIN.out
      refine ⟨own1, _, by rw [HA.out]; rfl, by rw [HA.out]; exact z1, by rw [HA.out]; exact HD2.out, ?_⟩
      exact ((HF.out.weak _).trans (fr_drew 1 _)).trans ((fr_drew 1 _).trans (z2.weak _))

set_option maxHeartbeats 2000000 in
set_option maxRecDepth 100000 in
theorem delete_any (own : Own) (w : World) (p : Nat) (s : St) (g : Gh) (a : ByteArray) (h : Rep own w p s g) (ht : s.told.length ≤ 1099511627776) (has : a.size ≤ maxLen) :
    Calls Tryz.prog 50 #[.pointer (some ⟨p, 0, none⟩), .string a] w (Ops own w p s ⟨8, 0, a, noS, 0, 0⟩ (actDelete a) fun d => .int .i64 d.err) := by
  obtain ⟨W, hW⟩ : ∃ W, W = ((w.alloc (.cells #[.pointer (some ⟨p, 0, none⟩)] 29)).alloc (.cells #[.string a] 9)).alloc (.cells #[.int .u8 8, .int .i64 0, .string a, .string noS, .int .i64 0, .int .i64 0] 82) := ⟨_, rfl⟩
  have hB : Below w.heap.size w W := by rw [hW]; exact (((Below.refl _ _).alloc (Nat.le_refl _) _).alloc (by simp) _).alloc (by simp; omega) _
  have b0 : W.heap[w.heap.size]? = some (.cells #[.pointer (some ⟨p, 0, none⟩)] 29 (0, 0)) := by rw [hW]; exact (Below.heap_alloc _ _ _ (by simp; omega)).trans (alloc2_a w _ _)
  have b1 : W.heap[w.heap.size + 1]? = some (.cells #[.string a] 9 (0, 0)) := by rw [hW]; exact (Below.heap_alloc _ _ _ (by simp)).trans (alloc2_b w _ _)
  have hRW := h.below hB (Nat.le_refl _)
  have hP := perform_any own W p s g hRW 8 0 a noS 0 112 #[.pointer (some ⟨w.heap.size + 1, 0, none⟩), .pointer (some ⟨w.heap.size, 0, none⟩)] (actDelete a) (Go.Proofs.enters_of Tryz.func112 (by kernel_rfl) rfl)
    (Delete1_does own W p s a _ _ b1 (owns_none h.owns (by omega)) b0 (owns_none h.owns (Nat.le_refl _)) has) ht (told_delete _ _ _ _)
  have HP := Lib.hid hP
  have HW := Lib.hid hW
  have HFW := Lib.hid (Fr.of_below (own := own) hB (Nat.le_refl _) noE)
  clear hP hW b0 b1 hRW hB h
  go_enter Tryz.func50, Tryz.ntmps50
  go_wp2_with fail
  rw [show (((w.alloc (.cells #[.pointer (some ⟨p, 0, none⟩)] 29)).alloc (.cells #[.string a] 9)).alloc (.cells #[.int .u8 8, .int .i64 0, .string a, .string ⟨#[]⟩, .int .i64 0, .int .i64 0] 82)) = W from HW.out.symm]
  refine HP.out.mono ?_
  rintro e w1 ⟨own', g', rfl, hR, hF⟩
  obtain ⟨r, hr⟩ : ∃ r, r = perform s ⟨8, 0, a, noS, 0, 0⟩ (actDelete a) := ⟨_, rfl⟩
  rw [← hr] at hR
  rw [← hr]
  obtain ⟨s', a0, a1, a2, a3, a4, a5⟩ := r
  have HF := Lib.hid hF
  have HPR := Lib.hid hr
  have HR := Lib.hid hR
  clear HP hF hr hR
  have e0 : (ddcells ⟨a0, a1, a2, a3, a4, a5⟩).toArray = #[.int .u8 a0, .int .i64 a1, .string a2, .string a3, .int .i64 a4, .int .i64 a5] := rfl
  simp only [e0]
  clear e0
  have hf := field5 a0 a1 a4 a5 a2 a3 w1
  go_wp2
  go_ret
  refine ⟨own', g', by rw [← HPR.out]; rfl, by rw [← HPR.out]; exact HR.out, HFW.out.trans HF.out⟩
end Go.Proofs.YtpkhghjmelgpeaaGreat.Wk
set_option linter.unusedVariables false
namespace Go.Proofs.YtpkhghjmelgpeaaGreat.Wk
open Go.ChangeShapes Go.WideShapes Go.ChangeAt Go.RowKit M Go.Maps Go.Proofs

theorem tah_nil (w : World) : (Instr.typeAssert .nilIface 135 168 true).run Tryz.prog w = .ok (.tuple #[.pointer none, .bool false]) w := by kernel_rfl
theorem tah_file (b : Nat) (w : World) : (Instr.typeAssert (.iface 138 (.pointer (some ⟨b, 0, none⟩))) 135 168 true).run Tryz.prog w = .ok (.tuple #[.pointer none, .bool false]) w := by kernel_rfl
theorem tah_host (b : Nat) (w : World) : (Instr.typeAssert (.iface 168 (.pointer (some ⟨b, 0, none⟩))) 135 168 true).run Tryz.prog w = .ok (.tuple #[.pointer (some ⟨b, 0, none⟩), .bool true]) w := by kernel_rfl
set_option maxHeartbeats 2000000 in
set_option maxRecDepth 100000 in
theorem hostFault_any (own : Own) (w : World) (p : Nat) (s : St) (g : Gh) (n : Int) (h : Rep own w p s g) (hn : (Lit.int .i64 n).wf = true) :
    Calls Tryz.prog 119 #[.pointer (some ⟨p, 0, none⟩), .int .i64 n] w fun e w' => e = .returned (.int .i64 (hostErr s.hs n)) ∧ w = w' := by
  have hlook := look_h h n hn
  have c6 : w.cell? ⟨p, 6, none⟩ = some (.map (some g.hm)) := cell_blk h.wcell 6
  cases hh : hdOf s.hs n with
  | closed =>
    have HA : Hid (hostErr s.hs n = 30) := Lib.hid (by unfold hostErr; rw [hh])
    rw [hh] at hlook
    simp only [hval] at hlook
    clear h hh
    have hta := tah_nil w
    go_enter Tryz.func119, Tryz.ntmps119
    go_wp2
    go_ret
    exact ⟨by rw [HA.out]; rfl, rfl⟩
  | file st i m a =>
    have HA : Hid (hostErr s.hs n = 30) := Lib.hid (by unfold hostErr; rw [hh])
    rw [hh] at hlook
    simp only [hval] at hlook
    clear h hh
    have hta := tah_file (g.hb (n.toNat - 1)) w
    go_enter Tryz.func119, Tryz.ntmps119
    go_wp2
    go_ret
    exact ⟨by rw [HA.out]; rfl, rfl⟩
  | host st =>
    have HA : Hid (hostErr s.hs n = if st then 31 else 0) := Lib.hid (by unfold hostErr; rw [hh]; cases st <;> rfl)
    rw [hh] at hlook
    simp only [hval] at hlook
    have hH := h.hands _ _ (hdOf_get hh (by simp)).2
    obtain ⟨_, hb⟩ := hH
    have c0 : w.cell? ⟨g.hb (n.toNat - 1), 0, none⟩ = some (.bool st) := cell_blk hb 0
    clear h hh hb
    have hta := tah_host (g.hb (n.toNat - 1)) w
    cases st
    all_goals
      go_enter Tryz.func119, Tryz.ntmps119
      go_wp2_with (go_at_call 130; refine (fault_any _ _ _ c0).mono ?_; rintro e w' ⟨rfl, rfl⟩)
      go_ret
      exact ⟨by rw [HA.out]; rfl, rfl⟩

set_option maxHeartbeats 4000000 in
set_option maxRecDepth 100000 in
theorem Send1_does (own : Own) (w : World) (p : Nat) (s : St) (n : Int) (x : ByteArray) (wb nb : Nat) (hwb : w.heap[wb]? = some (.cells #[.pointer (some ⟨p, 0, none⟩)] 29 (0, 0))) (hwo : own wb = none) (hnb : w.heap[nb]? = some (.cells #[.int .i64 n] 3 (0, 0))) (hno : own nb = none) (hn : (Lit.int .i64 n).wf = true) :
    Does own w p 118 #[.pointer (some ⟨wb, 0, none⟩), .pointer (some ⟨nb, 0, none⟩)] s ⟨11, n, x, noS, 0, 0⟩ (actSend n) := by
  intro own1 w1 g1 db k n0 t hc hR hdb hbox hF
  have hwb1 := (hF.kept _ (blk_lt hwb) hwo (fun e => e)).trans hwb
  have hnb1 := (hF.kept _ (blk_lt hnb) hno (fun e => e)).trans hnb
  have hwl1 := blk_lt hwb1
  have hnl1 := blk_lt hnb1
  have vw := cell_blk hwb1 0
  have vn := cell_blk hnb1 0
  obtain ⟨X, hX⟩ : ∃ X, X = w1.alloc (.cells #[.int .u8 k, .int .i64 n0, .string t] 63) := ⟨_, rfl⟩
  have hRX : Rep own1 X p { s with ch := s.ch.tail } g1 ∧ Fr own1 w1 own1 X noE := by rw [hX]; exact alloc_rep hR _
  obtain ⟨hRX, hFX⟩ := hRX
  have hbx : X.heap[db]? = _ := (show X.heap[db]? = w1.heap[db]? by rw [hX]; exact Below.heap_alloc _ _ _ (blk_lt hbox)).trans hbox
  have HH := Lib.hid (hostFault_any own1 X p _ g1 n hRX hn)
  have HX := Lib.hid hX
  have HR := Lib.hid hRX
  have HB := Lib.hid hbx
  have HF := Lib.hid hFX
  clear hX hRX hR hbx hbox hFX hF hwb1 hnb1 hwb hnb hc
  obtain ⟨er, her⟩ : ∃ er, er = hostErr ({ s with ch := s.ch.tail } : St).hs n := ⟨_, rfl⟩
  rw [← her] at HH
  have HE := Lib.hid her
  clear her
  go_enter Tryz.func118, Tryz.ntmps118
  go_wp2_with fail
  rw [← HX.out]
  refine HH.out.mono ?_
  rintro e w' ⟨rfl, rfl⟩
  go_wp2
  go_ret
  exact ⟨own1, g1, by rw [HE.out]; rfl, HR.out, HB.out, HF.out.weak _⟩

set_option maxHeartbeats 2000000 in
set_option maxRecDepth 100000 in
theorem send_any (own : Own) (w : World) (p : Nat) (s : St) (g : Gh) (dh : Int) (x : ByteArray) (h : Rep own w p s g) (ht : s.told.length ≤ 1099511627776) (hh : (Lit.int .i64 dh).wf = true) :
    Calls Tryz.prog 56 #[.pointer (some ⟨p, 0, none⟩), .int .i64 dh, .string x] w (Ops own w p s ⟨11, dh, x, noS, 0, 0⟩ (actSend dh) fun d => .int .i64 d.err) := by
  obtain ⟨W, hW⟩ : ∃ W, W = ((w.alloc (.cells #[.pointer (some ⟨p, 0, none⟩)] 29)).alloc (.cells #[.int .i64 dh] 3)).alloc (.cells #[.int .u8 11, .int .i64 dh, .string x, .string noS, .int .i64 0, .int .i64 0] 82) := ⟨_, rfl⟩
  have hB : Below w.heap.size w W := by rw [hW]; exact (((Below.refl _ _).alloc (Nat.le_refl _) _).alloc (by simp) _).alloc (by simp; omega) _
  have b0 : W.heap[w.heap.size]? = some (.cells #[.pointer (some ⟨p, 0, none⟩)] 29 (0, 0)) := by rw [hW]; exact (Below.heap_alloc _ _ _ (by simp; omega)).trans (alloc2_a w _ _)
  have b1 : W.heap[w.heap.size + 1]? = some (.cells #[.int .i64 dh] 3 (0, 0)) := by rw [hW]; exact (Below.heap_alloc _ _ _ (by simp)).trans (alloc2_b w _ _)
  have hRW := h.below hB (Nat.le_refl _)
  have hP := perform_any own W p s g hRW 11 dh x noS 0 118 #[.pointer (some ⟨w.heap.size, 0, none⟩), .pointer (some ⟨w.heap.size + 1, 0, none⟩)] (actSend dh) (Go.Proofs.enters_of Tryz.func118 (by kernel_rfl) rfl)
    (Send1_does own W p s dh x _ _ b0 (owns_none h.owns (Nat.le_refl _)) b1 (owns_none h.owns (by omega)) hh) ht (told_send _ _ _ _)
  have HP := Lib.hid hP
  have HW := Lib.hid hW
  have HFW := Lib.hid (Fr.of_below (own := own) hB (Nat.le_refl _) noE)
  clear hP hW b0 b1 hRW hB h
  go_enter Tryz.func56, Tryz.ntmps56
  go_wp2_with fail
  rw [show (((w.alloc (.cells #[.pointer (some ⟨p, 0, none⟩)] 29)).alloc (.cells #[.int .i64 dh] 3)).alloc (.cells #[.int .u8 11, .int .i64 dh, .string x, .string ⟨#[]⟩, .int .i64 0, .int .i64 0] 82)) = W from HW.out.symm]
  refine HP.out.mono ?_
  rintro e w1 ⟨own', g', rfl, hR, hF⟩
  obtain ⟨r, hr⟩ : ∃ r, r = perform s ⟨11, dh, x, noS, 0, 0⟩ (actSend dh) := ⟨_, rfl⟩
  rw [← hr] at hR
  rw [← hr]
  obtain ⟨s', a0, a1, a2, a3, a4, a5⟩ := r
  have HF := Lib.hid hF
  have HPR := Lib.hid hr
  have HR := Lib.hid hR
  clear HP hF hr hR
  have e0 : (ddcells ⟨a0, a1, a2, a3, a4, a5⟩).toArray = #[.int .u8 a0, .int .i64 a1, .string a2, .string a3, .int .i64 a4, .int .i64 a5] := rfl
  simp only [e0]
  clear e0
  have hf := field5 a0 a1 a4 a5 a2 a3 w1
  go_wp2
  go_ret
  refine ⟨own', g', by rw [← HPR.out]; rfl, by rw [← HPR.out]; exact HR.out, HFW.out.trans HF.out⟩

set_option maxHeartbeats 1000000 in
set_option maxRecDepth 100000 in
theorem quit_any (own : Own) (w : World) (p : Nat) (s : St) (g : Gh) (c : Int) (h : Rep own w p s g) (ht : s.told.length ≤ 1099511627776) :
    Calls Tryz.prog 61 #[.pointer (some ⟨p, 0, none⟩), .int .i64 c] w (Ops own w p s ⟨14, 0, noS, noS, c, 0⟩ actNone fun d => .int .i64 d.err) := by
  have hP := Lib.hid (perform_any own w p s g h 14 0 noS noS c 85 #[] actNone (Go.Proofs.enters_of Tryz.func85 (by kernel_rfl) rfl) (succeed_does own w p s _ rfl) ht rfl)
  clear h
  go_enter Tryz.func61, Tryz.ntmps61
  go_wp2_with fail
  refine hP.out.mono ?_
  rintro e w1 ⟨own', g', rfl, hR, hF⟩
  obtain ⟨r, hr⟩ : ∃ r, r = perform s ⟨14, 0, noS, noS, c, 0⟩ actNone := ⟨_, rfl⟩
  rw [← hr] at hR
  rw [← hr]
  have HF := Lib.hid hF
  have HP := Lib.hid hr
  clear hP hF hr
  obtain ⟨s', a0, a1, a2, a3, a4, a5⟩ := r
  have HR := Lib.hid hR
  clear hR
  have e0 : (ddcells ⟨a0, a1, a2, a3, a4, a5⟩).toArray = #[.int .u8 a0, .int .i64 a1, .string a2, .string a3, .int .i64 a4, .int .i64 a5] := rfl
  simp only [e0]
  clear e0
  have hf := field5 a0 a1 a4 a5 a2 a3 w1
  go_wp2
  go_ret
  exact ⟨own', g', by rw [← HP.out]; rfl, by rw [← HP.out]; exact HR.out, HF.out⟩

set_option maxHeartbeats 8000000 in
set_option maxRecDepth 100000 in
theorem Close1_does_host (own : Own) (w : World) (p : Nat) (s : St) (n : Int) (wb nb : Nat) (hwb : w.heap[wb]? = some (.cells #[.pointer (some ⟨p, 0, none⟩)] 29 (0, 0))) (hwo : own wb = none) (hnb : w.heap[nb]? = some (.cells #[.int .i64 n] 3 (0, 0))) (hno : own nb = none) (hn : (Lit.int .i64 n).wf = true)
    (st : Bool) (hh : hdOf s.hs n = .host st) :
    Does own w p 86 #[.pointer (some ⟨wb, 0, none⟩), .pointer (some ⟨nb, 0, none⟩)] s ⟨6, n, noS, noS, 0, 0⟩ (actClose n) := by
  intro own1 w1 g1 db k n0 t hc hR hdb hbox hF
  have hwb1 := (hF.kept _ (blk_lt hwb) hwo (fun e => e)).trans hwb
  have hnb1 := (hF.kept _ (blk_lt hnb) hno (fun e => e)).trans hnb
  have hwl1 := blk_lt hwb1
  have hnl1 := blk_lt hnb1
  have hdl1 := blk_lt hbox
  obtain ⟨X, hX⟩ : ∃ X, X = w1.alloc (.cells #[.int .u8 k, .int .i64 n0, .string t] 63) := ⟨_, rfl⟩
  have hXk : ∀ q, q < w1.heap.size → X.heap[q]? = w1.heap[q]? := fun q hq => by rw [hX]; exact Below.heap_alloc _ _ _ hq
  have hRX : Rep own1 X p { s with ch := s.ch.tail } g1 ∧ Fr own1 w1 own1 X noE := by rw [hX]; exact alloc_rep hR _
  obtain ⟨hRX, hFX⟩ := hRX
  have cw := cell_blk ((hXk wb hwl1).trans hwb1) 0
  have cn := cell_blk ((hXk nb hnl1).trans hnb1) 0
  have hbx := (hXk db hdl1).trans hbox
  have hRXd := drew_rep hRX
  have hlook := look_h2 hRXd n hn
  have c6 : X.cell? ⟨p, 6, none⟩ = some (.map (some g1.hm)) := cell_blk hRX.wcell 6
  have hXp := blk_lt hRX.wcell
  have hXs : w1.heap.size ≤ X.heap.size := hFX.size
  rw [show hdOf ({ s with ch := s.ch.tail } : St).hs n = .host st from hh] at hlook
  simp only [hval, Hd.there] at hlook
  have hH := hRX.hands _ _ (hdOf_get hh (by simp)).2
  obtain ⟨_, hhb⟩ := hH
  have c0 : X.cell? ⟨g1.hb (n.toNat - 1), 0, none⟩ = some (.bool st) := cell_blk hhb 0
  have hflt := fault_any (g1.hb (n.toNat - 1)) st X.drew c0
  clear c0
  cases st
  · have HA : Hid (actClose n { s with ch := s.ch.tail } ⟨k, n0, t⟩ ⟨6, n, noS, noS, 0, 0⟩ = ({ s with ch := s.ch.tail, hs := setAt s.hs n .closed }, ⟨6, n, noS, noS, 0, 0⟩)) := Lib.hid (by unfold actClose; simp only; rw [hh])
    have hRXdd := drew_rep hRXd
    obtain ⟨w2, hdel, hm2, hg2⟩ := del_any hRXdd n hn
    have hfin := close_rep hRXdd hn (by show (hdOf s.hs n).live = true; rw [hh]; rfl) hm2 hg2
    have hne : p ≠ g1.hm := fun e => by have := hRX.hown; rw [← e, hRX.wown] at this; cases this
    have hwc2 : w2.heap[p]? = _ := (hg2.block p hXp (fun e => hne (Option.some.inj e))).trans hRX.wcell
    have q8 := cell_blk hwc2 8
    have qf8 := frozen_blk hwc2 8
    have qw : w2.cell? ⟨wb, 0, none⟩ = some (.pointer (some ⟨p, 0, none⟩)) := by
      have : own1 wb = none := (hF.old _ (blk_lt hwb)).trans hwo
      exact cell_blk ((hg2.block wb (by show wb < X.heap.size; omega) (fun e => by rw [Option.some.inj e, hRX.hown] at this; cases this)).trans ((hXk wb hwl1).trans hwb1)) 0
    have hdb2 : w2.heap[db]? = some (.cells (ddcells ⟨6, n, noS, noS, 0, 0⟩).toArray 82 (0, 0)) := (hg2.block db (by show db < X.heap.size; omega) (fun e => by rw [Option.some.inj e, hRX.hown] at hdb; cases hdb)).trans hbx
    have hlv : live s.hs ≤ 32 := hRX.wf.full.2
    have hpd : db ≠ p := fun e => by rw [e, hRX.wown] at hdb; cases hdb
    have HX := Lib.hid hX
    have HF := Lib.hid hFX
    have HFIN := Lib.hid hfin
    have HD2 := Lib.hid hdb2
    have HDEL := Lib.hid hdel
    have HFLT := Lib.hid hflt
    have hpz : p < w2.heap.size := blk_lt hwc2
    have hnbl : nb < X.heap.size := by omega
    have hwbl : wb < X.heap.size := by omega
    have hhbl : g1.hb (n.toNat - 1) < X.heap.size := blk_lt hhb
    clear hX hRXd hRX hRXdd hR hbx hbox hFX hF hwb1 hnb1 hwb hnb hh hc hXk hfin hdel hm2 hg2 hwc2 hdb2 hhb hflt
    go_enter Tryz.func86, Tryz.ntmps86
    go_wp2_with fail
    rw [← HX.out]
    go_region
    go_wp2_with (go_at_call 130; refine HFLT.out.mono ?_; rintro e w' ⟨rfl, rfl⟩)
    have HDEL' := HDEL.out
    go_region
    clear HDEL'
    go_wp2
    go_ret
    obtain ⟨z1, z2⟩ := HFIN.out
    refine ⟨own1, _, by rw [HA.out]; rfl, by rw [HA.out]; exact z1, ?_, ?_⟩
    · rw [HA.out]; exact (blk_set_other _ _ _ _ _ hpd).trans HD2.out
    · exact ((HF.out.weak _).trans (fr_drew 1 _)).trans ((fr_drew 1 _).trans (z2.weak _))
  · have HA : Hid (actClose n { s with ch := s.ch.tail } ⟨k, n0, t⟩ ⟨6, n, noS, noS, 0, 0⟩ = ({ s with ch := s.ch.tail }, ⟨6, n, noS, noS, 0, 31⟩)) := Lib.hid (by unfold actClose; simp only; rw [hh])
    have HX := Lib.hid hX
    have HR := Lib.hid hRXd
    have HB := Lib.hid hbx
    have HF := Lib.hid hFX
    have HFLT := Lib.hid hflt
    clear hX hRXd hRX hR hbx hbox hFX hF hwb1 hnb1 hwb hnb hh hc hXk hhb hflt
    go_enter Tryz.func86, Tryz.ntmps86
    go_wp2_with fail
    rw [← HX.out]
    go_region
    go_wp2_with (go_at_call 130; refine HFLT.out.mono ?_; rintro e w' ⟨rfl, rfl⟩)
    go_ret
    exact ⟨own1, g1, by rw [HA.out]; rfl, by rw [HA.out]; exact HR.out, by rw [HA.out]; exact HB.out, (HF.out.weak _).trans (fr_drew 1 _)⟩
theorem closes_any (own : Own) (w : World) (p : Nat) (s : St) (g : Gh) (dh : Int) (h : Rep own w p s g) (ht : s.told.length ≤ 1099511627776) (hh : (Lit.int .i64 dh).wf = true) :
    Calls Tryz.prog 25 #[.pointer (some ⟨p, 0, none⟩), .int .i64 dh] w (Ops own w p s ⟨6, dh, noS, noS, 0, 0⟩ (actClose dh) fun d => .int .i64 d.err) :=
  close_any own w p s g dh h ht hh fun W wb nb h1 h2 h3 h4 => by
    cases hd : hdOf s.hs dh with
    | host st => exact Close1_does_host own W p s dh wb nb h1 h2 h3 h4 hh st hd
    | closed => exact Close1_does own W p s dh wb nb h1 h2 h3 h4 hh (fun st e => by rw [hd] at e; cases e)
    | file a b c d => exact Close1_does own W p s dh wb nb h1 h2 h3 h4 hh (fun st e => by rw [hd] at e; cases e)
end Go.Proofs.YtpkhghjmelgpeaaGreat.Wk
set_option linter.unusedVariables false
namespace Go.Proofs.YtpkhghjmelgpeaaGreat.Wk
open Go.ChangeShapes Go.WideShapes Go.ChangeAt Go.RowKit M Go.Maps Go.Proofs

theorem clock_fr {own : Own} {w : World} {p : Nat} {s : St} {g : Gh} (h : Rep own w p s g) (c : Int) : Fr own w own (w.setCell ⟨p, 1, none⟩ (.int .i64 c)) noE :=
  ⟨rfl, rfl, rfl, by rw [size_set]; exact Nat.le_refl _, fun _ _ => rfl, fun k _ h1 _ => blk_set_other _ _ _ _ _ (fun e => by subst e; rw [h.wown] at h1; cases h1)⟩

theorem clock_box {own : Own} {w : World} {p : Nat} {s : St} {g : Gh} (h : Rep own w p s g) {db : Nat} (hdb : own db = none) (hbox : w.heap[db]? = some (.cells (ddcells ⟨9, 0, noS, noS, 0, 0⟩).toArray 82 (0, 0))) (c : Int) (o : Obj) :
    Rep own ((w.setCell ⟨db, 4, none⟩ (.int .i64 c)).alloc o) p s g ∧ ((w.setCell ⟨db, 4, none⟩ (.int .i64 c)).alloc o).heap[db]? = some (.cells (ddcells ⟨9, 0, noS, noS, c, 0⟩).toArray 82 (0, 0)) ∧ Fr own w own ((w.setCell ⟨db, 4, none⟩ (.int .i64 c)).alloc o) (fun k => k = db) := by
  obtain ⟨z1, z2⟩ := set1_rep h db 4 hdb (.int .i64 c)
  obtain ⟨y1, y2⟩ := alloc_rep z1 o
  exact ⟨y1, (Below.heap_alloc _ _ _ (by rw [size_set]; exact blk_lt hbox)).trans (blk_set hbox 4 _), z2.trans (y2.weak _)⟩

set_option maxHeartbeats 8000000 in
set_option maxRecDepth 100000 in
theorem Clock1_does (own : Own) (w : World) (p : Nat) (s : St) (wb : Nat) (hwb : w.heap[wb]? = some (.cells #[.pointer (some ⟨p, 0, none⟩)] 29 (0, 0))) (hwo : own wb = none) :
    Does own w p 113 #[.pointer (some ⟨wb, 0, none⟩)] s ⟨9, 0, noS, noS, 0, 0⟩ actClock := by
  intro own1 w1 g1 db k n0 t hc hR hdb hbox hF
  have hwb1 := (hF.kept _ (blk_lt hwb) hwo (fun e => e)).trans hwb
  have hwl1 := blk_lt hwb1
  have hdl1 := blk_lt hbox
  have vw := cell_blk hwb1 0
  have vc := cell_blk hR.wcell 1
  have vf := frozen_blk hR.wcell 1
  have hpl := blk_lt hR.wcell
  have hpd : db ≠ p := fun e => by rw [e, hR.wown] at hdb; cases hdb
  have hpw : wb ≠ p := fun e => by have := (hF.old _ (blk_lt hwb)).trans hwo; rw [e, hR.wown] at this; cases this
  have dbf := frozen_blk hbox 4
  have db4 := cell_blk hbox 4
  obtain ⟨hc0, hc1⟩ := hR.wf.clock
  simp only at hc0 hc1
  obtain ⟨X, hX⟩ : ∃ X, X = w1.alloc (.cells #[.int .u8 k, .int .i64 n0, .string t] 63) := ⟨_, rfl⟩
  have hRX : Rep own1 X p { s with ch := s.ch.tail } g1 ∧ Fr own1 w1 own1 X noE := by rw [hX]; exact alloc_rep hR _
  obtain ⟨hRX, hFX⟩ := hRX
  have hbx : X.heap[db]? = some (.cells (ddcells ⟨9, 0, noS, noS, 0, 0⟩).toArray 82 (0, 0)) := (show X.heap[db]? = w1.heap[db]? by rw [hX]; exact Below.heap_alloc _ _ _ hdl1).trans hbox
  by_cases hcond : k = 1 ∧ 0 ≤ n0 ∧ n0 ≤ 1000000000000
  · obtain ⟨rfl, h2, h3⟩ := hcond
    have hck : clockOf { s with ch := s.ch.tail } ⟨1, n0, t⟩ = min (s.clock + n0) 1000000000000000000 := by unfold clockOf; rw [if_pos ⟨rfl, h2, h3⟩]
    have hR2 := rep_clock hR (min (s.clock + n0) 1000000000000000000) ⟨by omega, by omega⟩
    have hF2 := clock_fr hR (min (s.clock + n0) 1000000000000000000)
    have hbx2 := (blk_set_other w1 p 1 db (.int .i64 (min (s.clock + n0) 1000000000000000000)) hpd).trans hbox
    have hfin := clock_box hR2 hdb hbx2 (min (s.clock + n0) 1000000000000000000) (.cells #[.int .u8 1, .int .i64 n0, .string t] 63)
    have HA : Hid (actClock { s with ch := s.ch.tail } ⟨1, n0, t⟩ ⟨9, 0, noS, noS, 0, 0⟩ = ({ s with ch := s.ch.tail, clock := min (s.clock + n0) 1000000000000000000 }, ⟨9, 0, noS, noS, min (s.clock + n0) 1000000000000000000, 0⟩)) := Lib.hid (by unfold actClock; rw [hck])
    have HFIN := Lib.hid hfin
    have HF2 := Lib.hid hF2
    clear hX hR2 hF2 hFX hbx hRX hck hR hbox hF hwb1 hwb hc hfin hbx2
    go_enter Tryz.func113, Tryz.ntmps113
    go_wp2
    have hwr : IntKind.i64.wrap (s.clock + n0) = s.clock + n0 := IntWalk.i64_in _ (by omega)
    go_region
    go_wp2
    go_ret
    obtain ⟨z1, z2, z3⟩ := HFIN.out
    exact ⟨own1, _, by rw [HA.out]; rfl, by rw [HA.out]; exact drew_rep z1, by rw [HA.out]; exact z2, ((HF2.out.weak _).trans z3).trans (fr_drew 1 _)⟩
  · have HA : Hid (actClock { s with ch := s.ch.tail } ⟨k, n0, t⟩ ⟨9, 0, noS, noS, 0, 0⟩ = ({ s with ch := s.ch.tail }, ⟨9, 0, noS, noS, s.clock, 0⟩)) := Lib.hid (by unfold actClock clockOf; simp only; rw [if_neg hcond])
    have hcb : ((k == 1) = true ∧ decide (0 ≤ n0) = true ∧ decide (n0 ≤ 1000000000000) = false) ∨ ((k == 1) = true ∧ decide (0 ≤ n0) = false ∧ True) ∨ ((k == 1) = false ∧ True ∧ True) := by
      by_cases h1 : k = 1
      · by_cases h2 : 0 ≤ n0
        · exact .inl ⟨by simpa using h1, decide_eq_true h2, decide_eq_false (fun h3 => hcond ⟨h1, h2, h3⟩)⟩
        · exact .inr (.inl ⟨by simpa using h1, decide_eq_false h2, trivial⟩)
      · exact .inr (.inr ⟨by simpa using h1, trivial, trivial⟩)
    have HFIN := Lib.hid (clock_box hR hdb hbox s.clock (.cells #[.int .u8 k, .int .i64 n0, .string t] 63))
    clear hX hFX hbx hRX hR hbox hF hwb1 hwb hc hcond
    rcases hcb with ⟨b1, b2, b3⟩ | ⟨b1, b2, b3⟩ | ⟨b1, b2, b3⟩
    all_goals
      go_enter Tryz.func113, Tryz.ntmps113
      go_wp2
      go_ret
      obtain ⟨z1, z2, z3⟩ := HFIN.out
      exact ⟨own1, _, by rw [HA.out]; rfl, by rw [HA.out]; exact z1, by rw [HA.out]; exact z2, z3⟩
set_option maxHeartbeats 2000000 in
set_option maxRecDepth 100000 in
theorem clock_any (own : Own) (w : World) (p : Nat) (s : St) (g : Gh) (h : Rep own w p s g) (ht : s.told.length ≤ 1099511627776) :
    Calls Tryz.prog 52 #[.pointer (some ⟨p, 0, none⟩)] w (Ops own w p s ⟨9, 0, noS, noS, 0, 0⟩ actClock fun d => .tuple #[.int .i64 d.n, .int .i64 d.err]) := by
  obtain ⟨W, hW⟩ : ∃ W, W = w.alloc (.cells #[.pointer (some ⟨p, 0, none⟩)] 29) := ⟨_, rfl⟩
  have hB : Below w.heap.size w W := by rw [hW]; exact (Below.refl _ _).alloc (Nat.le_refl _) _
  have b0 : W.heap[w.heap.size]? = some (.cells #[.pointer (some ⟨p, 0, none⟩)] 29 (0, 0)) := by rw [hW]; exact heap_alloc_new w _
  have hRW := h.below hB (Nat.le_refl _)
  have hP := perform_any own W p s g hRW 9 0 noS noS 0 113 #[.pointer (some ⟨w.heap.size, 0, none⟩)] actClock (Go.Proofs.enters_of Tryz.func113 (by kernel_rfl) rfl)
    (Clock1_does own W p s _ b0 (owns_none h.owns (Nat.le_refl _))) ht (told_clock _ _ _)
  have HP := Lib.hid hP
  have HW := Lib.hid hW
  have HFW := Lib.hid (Fr.of_below (own := own) hB (Nat.le_refl _) noE)
  clear hP hW b0 hRW hB h
  go_enter Tryz.func52, Tryz.ntmps52
  go_wp2_with fail
  rw [← HW.out]
  refine HP.out.mono ?_
  rintro e w1 ⟨own', g', rfl, hR, hF⟩
  obtain ⟨r, hr⟩ : ∃ r, r = perform s ⟨9, 0, noS, noS, 0, 0⟩ actClock := ⟨_, rfl⟩
  rw [← hr] at hR
  rw [← hr]
  obtain ⟨s', a0, a1, a2, a3, a4, a5⟩ := r
  have HF := Lib.hid hF
  have HPR := Lib.hid hr
  have HR := Lib.hid hR
  clear HP hF hr hR
  have e0 : (ddcells ⟨a0, a1, a2, a3, a4, a5⟩).toArray = #[.int .u8 a0, .int .i64 a1, .string a2, .string a3, .int .i64 a4, .int .i64 a5] := rfl
  simp only [e0]
  clear e0
  go_wp2
  go_quiet (fail)
  go_wp2
  go_ret2
  refine ⟨own', g', by rw [← HPR.out]; rfl, by rw [← HPR.out]; exact rep_drew (alloc_rep HR.out _).1 _, (HFW.out.trans HF.out).trans ((alloc_rep HR.out _).2.trans (fr_drew _ _))⟩
end Go.Proofs.YtpkhghjmelgpeaaGreat.Wk
set_option linter.unusedVariables false
namespace Go.Proofs.YtpkhghjmelgpeaaGreat.Wk
open Go.ChangeShapes Go.WideShapes Go.ChangeAt Go.RowKit M Go.Maps Go.Proofs

set_option maxHeartbeats 8000000 in
set_option maxRecDepth 100000 in
theorem Connect1_does (own : Own) (w : World) (p : Nat) (s : St) (a : ByteArray) (ab wb : Nat) (hab : w.heap[ab]? = some (.cells #[.string a] 9 (0, 0))) (hao : own ab = none)
    (hwb : w.heap[wb]? = some (.cells #[.pointer (some ⟨p, 0, none⟩)] 29 (0, 0))) (hwo : own wb = none) (has : a.size ≤ maxLen) (hhl : s.hs.length ≤ 1099511627776) :
    Does own w p 114 #[.pointer (some ⟨ab, 0, none⟩), .pointer (some ⟨wb, 0, none⟩)] s ⟨10, 0, a, noS, 0, 0⟩ (actConnect a) := by
  intro own1 w1 g1 db k n0 t hc hR hdb hbox hF
  have hab1 := (hF.kept _ (blk_lt hab) hao (fun e => e)).trans hab
  have hwb1 := (hF.kept _ (blk_lt hwb) hwo (fun e => e)).trans hwb
  have hwo1 : own1 wb = none := (hF.old _ (blk_lt hwb)).trans hwo
  have hal1 := blk_lt hab1
  have hwl1 := blk_lt hwb1
  have hdl1 := blk_lt hbox
  obtain ⟨X, hX⟩ : ∃ X, X = w1.alloc (.cells #[.int .u8 k, .int .i64 n0, .string t] 63) := ⟨_, rfl⟩
  have hXk : ∀ q, q < w1.heap.size → X.heap[q]? = w1.heap[q]? := fun q hq => by rw [hX]; exact Below.heap_alloc _ _ _ hq
  have hRX : Rep own1 X p { s with ch := s.ch.tail } g1 ∧ Fr own1 w1 own1 X noE := by rw [hX]; exact alloc_rep hR _
  obtain ⟨hRX, hFX⟩ := hRX
  have hXc : X.heap[w1.heap.size]? = some (.cells #[.int .u8 k, .int .i64 n0, .string t] 63 (0, 0)) := by rw [hX]; exact heap_alloc_new w1 _
  have va := cell_blk hab1 0
  have ca := cell_blk ((hXk ab hal1).trans hab1) 0
  have cw := cell_blk ((hXk wb hwl1).trans hwb1) 0
  have x0 : X.cell? ⟨w1.heap.size, 0, none⟩ = some (.int .u8 k) := cell_blk hXc 0
  have x1 : X.cell? ⟨w1.heap.size, 1, none⟩ = some (.int .i64 n0) := cell_blk hXc 1
  have x2 : X.cell? ⟨w1.heap.size, 2, none⟩ = some (.string t) := cell_blk hXc 2
  have hbx := (hXk db hdl1).trans hbox
  have hXs : w1.heap.size < X.heap.size := blk_lt hXc
  have HNA := Lib.hid (isName_any a X has)
  have HX := Lib.hid hX
  have HF := Lib.hid hFX
  have HB := Lib.hid hbx
  have HR := Lib.hid hRX
  have HWB := Lib.hid ((hXk wb hwl1).trans hwb1)
  clear hX hFX hbx hRX hR hbox hF hwb1 hab1 hwb hab hc hXk hXc
  by_cases h1 : isName a = true
  · rw [h1] at HNA
    by_cases h2 : k = 2 ∧ t = a
    · obtain ⟨rfl, rfl⟩ := h2
      obtain ⟨er, her⟩ : ∃ er, er = M.chosen ⟨2, n0, t⟩ 2 := ⟨_, rfl⟩
      have HCH := Lib.hid (chosen_any 2 n0 2 t X)
      rw [← her] at HCH
      by_cases h3 : er = 0
      · subst h3
        by_cases h4 : live s.hs = 32
        · have HA : Hid (actConnect t { s with ch := s.ch.tail } ⟨2, n0, t⟩ ⟨10, 0, t, noS, 0, 0⟩ = ({ s with ch := s.ch.tail }, ⟨10, 0, t, noS, 0, 34⟩)) := Lib.hid (by unfold actConnect; rw [if_neg (by simp [h1]), if_neg (by simp), ← her, if_neg (by simp), if_pos h4])
          clear her h1
          go_enter Tryz.func114, Tryz.ntmps114
          go_wp2_with fail
          rw [← HX.out]
          refine HNA.out.mono ?_
          rintro e w' ⟨rfl, rfl⟩
          go_wp2_with fail
          refine HCH.out.mono ?_
          rintro e w2 ⟨rfl, hb2⟩
          have cw2 := (hb2.cell (p := ⟨wb, 0, none⟩) (by show wb < X.heap.size; omega)).trans cw
          have HFU := Lib.hid (full_any own1 w2 p _ g1 (HR.out.below hb2 (Nat.le_refl _)) true (decide_eq_true h4))
          have HB2 := Lib.hid hb2
          clear hb2 h4
          go_wp2_with fail
          refine HFU.out.mono ?_
          rintro e w' ⟨rfl, rfl⟩
          go_wp2
          go_ret
          exact ⟨own1, g1, by rw [HA.out]; rfl, by rw [HA.out]; exact HR.out.below HB2.out (Nat.le_refl _), by rw [HA.out]; exact (HB2.out.block db (by omega)).trans HB.out, ((HF.out.trans (Fr.of_below HB2.out (Nat.le_refl _) _)).weak _)⟩
        · have HA : Hid (actConnect t { s with ch := s.ch.tail } ⟨2, n0, t⟩ ⟨10, 0, t, noS, 0, 0⟩ = ({ s with ch := s.ch.tail, hs := s.hs ++ [.host false] }, ⟨10, s.hs.length + 1, t, noS, 0, 0⟩)) := Lib.hid (by unfold actConnect; rw [if_neg (by simp [h1]), if_neg (by simp), ← her, if_neg (by simp), if_neg h4])
          have hlv : live s.hs < 32 := by have := HR.out.wf.full.2; simp only at this; omega
          clear her h1
          go_enter Tryz.func114, Tryz.ntmps114
          go_wp2_with fail
          rw [← HX.out]
          refine HNA.out.mono ?_
          rintro e w' ⟨rfl, rfl⟩
          go_wp2_with fail
          refine HCH.out.mono ?_
          rintro e Y ⟨rfl, hb2⟩
          have hwbY := (hb2.block wb (by omega)).trans HWB.out
          have cw2 := cell_blk hwbY 0
          have hR2 := HR.out.below hb2 (Nat.le_refl _)
          have hF2 := HF.out.trans (Fr.of_below (own := own1) hb2 (Nat.le_refl _) noE)
          have HFU := Lib.hid (full_any own1 Y p _ g1 hR2 false (decide_eq_false h4))
          have hdbY := (hb2.block db (by omega)).trans HB.out
          have hdbO : own1 db = none := hdb
          have hdbs : db < Y.heap.size := blk_lt hdbY
          have hwbs : wb < Y.heap.size := blk_lt hwbY
          have hRZ := alloc_rep hR2 (.cells #[.bool false] 170)
          have his := issue_any own1 Y _ p _ _ hRZ.1 Y.heap.size 168 (.host false) hRZ.2 (Nat.le_refl _) (by simp) (fun _ => rfl) rfl rfl (fun b i' m' a' e => by cases e) (fun own' W e1 e2 => ⟨e1, e2.trans (heap_alloc_new _ _)⟩) hlv hhl (owns_none hR2.owns (Nat.le_refl _))
          have HIS := Lib.hid his
          have HF2 := Lib.hid hF2
          have HDY := Lib.hid hdbY
          have HDO := Lib.hid hdbO
          clear his hRZ hF2 hR2 hwbY hdbY hdbO hb2 h4
          go_wp2_with fail
          refine HFU.out.mono ?_
          rintro e w' ⟨rfl, rfl⟩
          go_wp2_with (go_at_call 92; refine HIS.out.mono ?_; rintro e w4 ⟨own4, g4, rfl, hR4, hF4⟩; have hd4 := (hF4.kept db hdbs HDO.out (fun e => e)).trans HDY.out; have d41 := cell_blk hd4 1; have d4f := frozen_blk hd4 1; have HR4 := Lib.hid hR4; have HF4 := Lib.hid hF4; have HD4 := Lib.hid hd4; clear hR4 hF4 hd4)
          go_ret
          obtain ⟨z1, z2⟩ := set1_rep HR4.out db 1 ((HF4.out.old _ hdbs).trans HDO.out) (.int .i64 ((s.hs.length : Int) + 1))
          refine ⟨own4, g4, by rw [HA.out]; rfl, by rw [HA.out]; exact z1, ?_, ((HF2.out.weak _).trans (HF4.out.weak _)).trans z2⟩
          rw [HA.out]; exact blk_set HD4.out 1 _
      · have HA : Hid (actConnect t { s with ch := s.ch.tail } ⟨2, n0, t⟩ ⟨10, 0, t, noS, 0, 0⟩ = ({ s with ch := s.ch.tail }, ⟨10, 0, t, noS, 0, er⟩)) := Lib.hid (by unfold actConnect; rw [if_neg (by simp [h1]), if_neg (by simp), ← her, if_pos h3])
        have heb : (er == 0) = false := by simpa using h3
        clear her h1 h3
        go_enter Tryz.func114, Tryz.ntmps114
        go_wp2_with fail
        rw [← HX.out]
        refine HNA.out.mono ?_
        rintro e w' ⟨rfl, rfl⟩
        go_wp2_with fail
        refine HCH.out.mono ?_
        rintro e w2 ⟨rfl, hb2⟩
        have HB2 := Lib.hid hb2
        clear hb2
        go_wp2
        go_ret
        exact ⟨own1, g1, by rw [HA.out]; rfl, by rw [HA.out]; exact HR.out.below HB2.out (Nat.le_refl _), by rw [HA.out]; exact (HB2.out.block db (by omega)).trans HB.out, ((HF.out.trans (Fr.of_below HB2.out (Nat.le_refl _) _)).weak _)⟩
    · have HA : Hid (actConnect a { s with ch := s.ch.tail } ⟨k, n0, t⟩ ⟨10, 0, a, noS, 0, 0⟩ = ({ s with ch := s.ch.tail }, ⟨10, 0, a, noS, 0, 32⟩)) := Lib.hid (by unfold actConnect; rw [if_neg (by simp [h1]), if_pos (by by_cases e : k = 2; exact .inr (fun e2 => h2 ⟨e, e2⟩); exact .inl e)])
      have hcb : (k != 2) = true ∨ ((k != 2) = false ∧ (t.toList == a.toList) = false) := by
        by_cases e : k = 2
        · exact .inr ⟨by simpa using e, by simpa using fun e2 => h2 ⟨e, by rw [ByteArray.toList_eq, ByteArray.toList_eq] at e2; exact strOf_inj e2⟩⟩
        · exact .inl (by simpa using e)
      clear h1 h2
      rcases hcb with b1 | ⟨b1, b2⟩
      all_goals
        go_enter Tryz.func114, Tryz.ntmps114
        go_wp2_with fail
        rw [← HX.out]
        refine HNA.out.mono ?_
        rintro e w' ⟨rfl, rfl⟩
        go_wp2
        go_ret
        exact ⟨own1, g1, by rw [HA.out]; rfl, by rw [HA.out]; exact HR.out, by rw [HA.out]; exact HB.out, HF.out.weak _⟩
  · have h1' : isName a = false := by simpa using h1
    have HA : Hid (actConnect a { s with ch := s.ch.tail } ⟨k, n0, t⟩ ⟨10, 0, a, noS, 0, 0⟩ = ({ s with ch := s.ch.tail }, ⟨10, 0, a, noS, 0, 35⟩)) := Lib.hid (by unfold actConnect; rw [if_pos h1'])
    rw [h1'] at HNA
    clear h1 h1'
    go_enter Tryz.func114, Tryz.ntmps114
    go_wp2_with fail
    rw [← HX.out]
    refine HNA.out.mono ?_
    rintro e w' ⟨rfl, rfl⟩
    go_wp2
    go_ret
    exact ⟨own1, g1, by rw [HA.out]; rfl, by rw [HA.out]; exact HR.out, by rw [HA.out]; exact HB.out, HF.out.weak _⟩

set_option maxHeartbeats 2000000 in
set_option maxRecDepth 100000 in
theorem connect_any (own : Own) (w : World) (p : Nat) (s : St) (g : Gh) (a : ByteArray) (h : Rep own w p s g) (ht : s.told.length ≤ 1099511627776) (has : a.size ≤ maxLen) (hhl : s.hs.length ≤ 1099511627776) :
    Calls Tryz.prog 54 #[.pointer (some ⟨p, 0, none⟩), .string a] w (Ops own w p s ⟨10, 0, a, noS, 0, 0⟩ (actConnect a) fun d => .tuple #[.int .i64 d.handle, .int .i64 d.err]) := by
  obtain ⟨W, hW⟩ : ∃ W, W = ((w.alloc (.cells #[.pointer (some ⟨p, 0, none⟩)] 29)).alloc (.cells #[.string a] 9)).alloc (.cells #[.int .u8 10, .int .i64 0, .string a, .string noS, .int .i64 0, .int .i64 0] 82) := ⟨_, rfl⟩
  have hB : Below w.heap.size w W := by rw [hW]; exact (((Below.refl _ _).alloc (Nat.le_refl _) _).alloc (by simp) _).alloc (by simp; omega) _
  have b0 : W.heap[w.heap.size]? = some (.cells #[.pointer (some ⟨p, 0, none⟩)] 29 (0, 0)) := by rw [hW]; exact (Below.heap_alloc _ _ _ (by simp; omega)).trans (alloc2_a w _ _)
  have b1 : W.heap[w.heap.size + 1]? = some (.cells #[.string a] 9 (0, 0)) := by rw [hW]; exact (Below.heap_alloc _ _ _ (by simp)).trans (alloc2_b w _ _)
  have hRW := h.below hB (Nat.le_refl _)
  have hP := perform_any own W p s g hRW 10 0 a noS 0 114 #[.pointer (some ⟨w.heap.size + 1, 0, none⟩), .pointer (some ⟨w.heap.size, 0, none⟩)] (actConnect a) (Go.Proofs.enters_of Tryz.func114 (by kernel_rfl) rfl)
    (Connect1_does own W p s a _ _ b1 (owns_none h.owns (by omega)) b0 (owns_none h.owns (Nat.le_refl _)) has hhl) ht (told_connect _ _ _ _)
  have HP := Lib.hid hP
  have HW := Lib.hid hW
  have HFW := Lib.hid (Fr.of_below (own := own) hB (Nat.le_refl _) noE)
  clear hP hW b0 b1 hRW hB h
  go_enter Tryz.func54, Tryz.ntmps54
  go_wp2_with fail
  rw [show (((w.alloc (.cells #[.pointer (some ⟨p, 0, none⟩)] 29)).alloc (.cells #[.string a] 9)).alloc (.cells #[.int .u8 10, .int .i64 0, .string a, .string ⟨#[]⟩, .int .i64 0, .int .i64 0] 82)) = W from HW.out.symm]
  refine HP.out.mono ?_
  rintro e w1 ⟨own', g', rfl, hR, hF⟩
  obtain ⟨r, hr⟩ : ∃ r, r = perform s ⟨10, 0, a, noS, 0, 0⟩ (actConnect a) := ⟨_, rfl⟩
  rw [← hr] at hR
  rw [← hr]
  obtain ⟨s', a0, a1, a2, a3, a4, a5⟩ := r
  have HF := Lib.hid hF
  have HPR := Lib.hid hr
  have HR := Lib.hid hR
  clear HP hF hr hR
  have e0 : (ddcells ⟨a0, a1, a2, a3, a4, a5⟩).toArray = #[.int .u8 a0, .int .i64 a1, .string a2, .string a3, .int .i64 a4, .int .i64 a5] := rfl
  simp only [e0]
  clear e0
  go_wp2
  go_quiet (fail)
  go_wp2
  go_ret2
  refine ⟨own', g', by rw [← HPR.out]; rfl, by rw [← HPR.out]; exact rep_drew (alloc_rep HR.out _).1 _, (HFW.out.trans HF.out).trans ((alloc_rep HR.out _).2.trans (fr_drew _ _))⟩
end Go.Proofs.YtpkhghjmelgpeaaGreat.Wk
set_option linter.unusedVariables false
namespace Go.Proofs.YtpkhghjmelgpeaaGreat.Wk
open Go.ChangeShapes Go.WideShapes Go.ChangeAt Go.RowKit M Go.Maps Go.Proofs

set_option maxHeartbeats 1000000 in
theorem strClone_any (x : ByteArray) (w : World) (hx : x.size ≤ 281474976710656) : Calls Tryz.prog 121 #[.string x] w fun e w' => e = .returned (.string x) ∧ Below w.heap.size w w' := by
  have HC := Lib.hid (Sh.Clone x w hx)
  go_enter Tryz.func121, Tryz.ntmps121
  go_wp2_with fail
  refine HC.out.mono ?_
  rintro e w1 ⟨rfl, hb⟩
  have HB := Lib.hid hb
  clear hb
  go_wp2
  go_ret
  exact ⟨rfl, HB.out⟩

theorem take_size (t : ByteArray) (mm : Nat) : (M.strOf (t.data.toList.take mm)).size ≤ t.size := by
  show (t.data.toList.take mm).toArray.size ≤ t.data.size
  simp; omega
theorem extract_take (t : ByteArray) (mm : Nat) : t.extract 0 (min (mm : Int) (t.size : Int)).toNat = M.strOf (t.data.toList.take mm) := by
  apply strOf_inj
  rw [ByteArray.data_extract, Array.toList_extract]
  show (t.data.toList.extract 0 _) = t.data.toList.take mm
  rw [List.extract_eq_take_drop, List.drop_zero, Nat.sub_zero]
  have hsz : t.data.toList.length = t.size := rfl
  by_cases h : mm ≤ t.size
  · congr 1; omega
  · rw [List.take_of_length_le (by omega), List.take_of_length_le (by omega)]
set_option maxHeartbeats 8000000 in
set_option maxRecDepth 100000 in
theorem Receive1_does (own : Own) (w : World) (p : Nat) (s : St) (n m : Int) (wb nb mb : Nat) (hwb : w.heap[wb]? = some (.cells #[.pointer (some ⟨p, 0, none⟩)] 29 (0, 0))) (hwo : own wb = none) (hnb : w.heap[nb]? = some (.cells #[.int .i64 n] 3 (0, 0))) (hno : own nb = none) (hmb : w.heap[mb]? = some (.cells #[.int .i64 m] 3 (0, 0))) (hmo : own mb = none) (hn : (Lit.int .i64 n).wf = true) (hm : (Lit.int .i64 m).wf = true)
    (hts : ∀ c ∈ s.ch, c.text.size ≤ 281474976710656) :
    Does own w p 120 #[.pointer (some ⟨wb, 0, none⟩), .pointer (some ⟨nb, 0, none⟩), .pointer (some ⟨mb, 0, none⟩)] s ⟨12, n, noS, noS, m, 0⟩ (actReceive n m) := by
  intro own1 w1 g1 db k n0 t hc hR hdb hbox hF
  have htl : t.size ≤ 281474976710656 := by
    cases hs : s.ch with
    | nil => rw [hs] at hc; injection hc with _ _ h3; rw [← h3]; decide
    | cons a r => rw [hs] at hc; have : a = ⟨k, n0, t⟩ := hc; exact (by rw [this] : a.text.size = t.size) ▸ hts a (by rw [hs]; simp)
  have hwb1 := (hF.kept _ (blk_lt hwb) hwo (fun e => e)).trans hwb
  have hnb1 := (hF.kept _ (blk_lt hnb) hno (fun e => e)).trans hnb
  have hmb1 := (hF.kept _ (blk_lt hmb) hmo (fun e => e)).trans hmb
  have hwl1 := blk_lt hwb1
  have hnl1 := blk_lt hnb1
  have hml1 := blk_lt hmb1
  have hdl1 := blk_lt hbox
  obtain ⟨X, hX⟩ : ∃ X, X = w1.alloc (.cells #[.int .u8 k, .int .i64 n0, .string t] 63) := ⟨_, rfl⟩
  have hXk : ∀ q, q < w1.heap.size → X.heap[q]? = w1.heap[q]? := fun q hq => by rw [hX]; exact Below.heap_alloc _ _ _ hq
  have hRX : Rep own1 X p { s with ch := s.ch.tail } g1 ∧ Fr own1 w1 own1 X noE := by rw [hX]; exact alloc_rep hR _
  obtain ⟨hRX, hFX⟩ := hRX
  have hXc : X.heap[w1.heap.size]? = some (.cells #[.int .u8 k, .int .i64 n0, .string t] 63 (0, 0)) := by rw [hX]; exact heap_alloc_new w1 _
  have vw := cell_blk hwb1 0
  have vn := cell_blk hnb1 0
  have cm := cell_blk ((hXk mb hml1).trans hmb1) 0
  have x0 : X.cell? ⟨w1.heap.size, 0, none⟩ = some (.int .u8 k) := cell_blk hXc 0
  have x1 : X.cell? ⟨w1.heap.size, 1, none⟩ = some (.int .i64 n0) := cell_blk hXc 1
  have x2 : X.cell? ⟨w1.heap.size, 2, none⟩ = some (.string t) := cell_blk hXc 2
  have hbx := (hXk db hdl1).trans hbox
  have hXs : w1.heap.size < X.heap.size := blk_lt hXc
  have HH := Lib.hid (hostFault_any own1 X p _ g1 n hRX hn)
  obtain ⟨er, her⟩ : ∃ er, er = hostErr ({ s with ch := s.ch.tail } : St).hs n := ⟨_, rfl⟩
  rw [← her] at HH
  obtain ⟨hm1, hm2⟩ := bounds_i64 hm
  have HX := Lib.hid hX
  have HF := Lib.hid hFX
  have HB := Lib.hid hbx
  have HR := Lib.hid hRX
  have HTL := Lib.hid htl
  have HXC := Lib.hid hXc
  have HMB := Lib.hid ((hXk mb hml1).trans hmb1)
  clear hX hFX hbx hRX hR hbox hF hwb1 hnb1 hmb1 hwb hnb hmb hc hXk hXc hts htl hm
  by_cases h0 : er = 0
  · subst h0
    by_cases h1 : m < 0
    · have HA : Hid (actReceive n m { s with ch := s.ch.tail } ⟨k, n0, t⟩ ⟨12, n, noS, noS, m, 0⟩ = ({ s with ch := s.ch.tail }, ⟨12, n, noS, noS, m, 1⟩)) := Lib.hid (by unfold actReceive; rw [← her, if_neg (by simp), if_pos h1])
      have b1 : decide (m < 0) = true := decide_eq_true h1
      clear her h1 hm1 hm2
      go_enter Tryz.func120, Tryz.ntmps120
      go_wp2_with fail
      rw [← HX.out]
      refine HH.out.mono ?_
      rintro e w' ⟨rfl, rfl⟩
      go_wp2
      go_ret
      exact ⟨own1, g1, by rw [HA.out]; rfl, by rw [HA.out]; exact HR.out, by rw [HA.out]; exact HB.out, HF.out.weak _⟩
    · obtain ⟨mm, rfl⟩ : ∃ mm : Nat, m = mm := ⟨m.toNat, by omega⟩
      have b1 : decide ((mm : Int) < 0) = false := decide_eq_false h1
      obtain ⟨e2, he2⟩ : ∃ e2, e2 = M.chosen ⟨k, n0, t⟩ 3 := ⟨_, rfl⟩
      have HCH := Lib.hid (chosen_any k n0 3 t X)
      rw [← he2] at HCH
      by_cases h2 : e2 = 0
      · subst h2
        by_cases h3 : k = 3
        · subst h3
          have HA : Hid (actReceive n mm { s with ch := s.ch.tail } ⟨3, n0, t⟩ ⟨12, n, noS, noS, mm, 0⟩ = ({ s with ch := s.ch.tail }, ⟨12, n, M.strOf (t.data.toList.take mm), noS, mm, 0⟩)) := Lib.hid (by unfold actReceive; rw [← her, if_neg (by simp), if_neg (by omega), ← he2, if_neg (by simp), if_pos rfl]; rfl)
          clear her he2 h1
          go_enter Tryz.func120, Tryz.ntmps120
          go_wp2_with fail
          rw [← HX.out]
          refine HH.out.mono ?_
          rintro e w' ⟨rfl, rfl⟩
          go_wp2_with fail
          refine HCH.out.mono ?_
          rintro e w2 ⟨rfl, hb2⟩
          have hc2 := (hb2.block _ hXs).trans HXC.out
          have y0 : w2.cell? ⟨w1.heap.size, 0, none⟩ = some (.int .u8 3) := cell_blk hc2 0
          have y2 : w2.cell? ⟨w1.heap.size, 2, none⟩ = some (.string t) := cell_blk hc2 2
          have ym : w2.cell? ⟨mb, 0, none⟩ = some (.int .i64 mm) := cell_blk ((hb2.block mb (by omega)).trans HMB.out) 0
          have HB2 := Lib.hid hb2
          clear hb2 hc2
          go_wp2_with fail
          rw [extract_take t mm]
          refine (strClone_any _ w2 (Nat.le_trans (take_size t mm) HTL.out)).mono ?_
          rintro e w3 ⟨rfl, hb3⟩
          have hdb3 := (hb3.block db (by have := HB2.out.size; omega)).trans ((HB2.out.block db (by omega)).trans HB.out)
          have d2 := cell_blk hdb3 2
          have df := frozen_blk hdb3 2
          have hdl3 := blk_lt hdb3
          have HB3 := Lib.hid hb3
          have HD3 := Lib.hid hdb3
          clear hb3 hdb3
          go_wp2
          go_ret
          obtain ⟨z1, z2⟩ := set1_rep ((HR.out.below HB2.out (Nat.le_refl _)).below HB3.out (Nat.le_refl _)) db 2 hdb (.string (M.strOf (t.data.toList.take mm)))
          exact ⟨own1, g1, by rw [HA.out]; rfl, by rw [HA.out]; exact z1, by rw [HA.out]; exact blk_set HD3.out 2 _, ((HF.out.trans ((Fr.of_below HB2.out (Nat.le_refl _) _).trans (Fr.of_below HB3.out (Nat.le_refl _) _))).weak _).trans z2⟩
        · have HA : Hid (actReceive n mm { s with ch := s.ch.tail } ⟨k, n0, t⟩ ⟨12, n, noS, noS, mm, 0⟩ = ({ s with ch := s.ch.tail }, ⟨12, n, noS, noS, mm, 0⟩)) := Lib.hid (by unfold actReceive; rw [← her, if_neg (by simp), if_neg (by omega), ← he2, if_neg (by simp), if_neg h3])
          have hkb : (k == 3) = false := by simpa using h3
          clear her he2 h1 h3
          go_enter Tryz.func120, Tryz.ntmps120
          go_wp2_with fail
          rw [← HX.out]
          refine HH.out.mono ?_
          rintro e w' ⟨rfl, rfl⟩
          go_wp2_with fail
          refine HCH.out.mono ?_
          rintro e w2 ⟨rfl, hb2⟩
          have hc2 := (hb2.block _ hXs).trans HXC.out
          have y0 : w2.cell? ⟨w1.heap.size, 0, none⟩ = some (.int .u8 k) := cell_blk hc2 0
          have HB2 := Lib.hid hb2
          clear hb2 hc2
          go_wp2
          go_ret
          exact ⟨own1, g1, by rw [HA.out]; rfl, by rw [HA.out]; exact HR.out.below HB2.out (Nat.le_refl _), by rw [HA.out]; exact (HB2.out.block db (by omega)).trans HB.out, ((HF.out.trans (Fr.of_below HB2.out (Nat.le_refl _) _)).weak _)⟩
      · have HA : Hid (actReceive n mm { s with ch := s.ch.tail } ⟨k, n0, t⟩ ⟨12, n, noS, noS, mm, 0⟩ = ({ s with ch := s.ch.tail }, ⟨12, n, noS, noS, mm, e2⟩)) := Lib.hid (by unfold actReceive; rw [← her, if_neg (by simp), if_neg (by omega), ← he2, if_pos h2])
        have heb : (e2 == 0) = false := by simpa using h2
        clear her he2 h1 h2
        go_enter Tryz.func120, Tryz.ntmps120
        go_wp2_with fail
        rw [← HX.out]
        refine HH.out.mono ?_
        rintro e w' ⟨rfl, rfl⟩
        go_wp2_with fail
        refine HCH.out.mono ?_
        rintro e w2 ⟨rfl, hb2⟩
        have HB2 := Lib.hid hb2
        clear hb2
        go_wp2
        go_ret
        exact ⟨own1, g1, by rw [HA.out]; rfl, by rw [HA.out]; exact HR.out.below HB2.out (Nat.le_refl _), by rw [HA.out]; exact (HB2.out.block db (by omega)).trans HB.out, ((HF.out.trans (Fr.of_below HB2.out (Nat.le_refl _) _)).weak _)⟩
  · have HA : Hid (actReceive n m { s with ch := s.ch.tail } ⟨k, n0, t⟩ ⟨12, n, noS, noS, m, 0⟩ = ({ s with ch := s.ch.tail }, ⟨12, n, noS, noS, m, er⟩)) := Lib.hid (by unfold actReceive; rw [← her, if_pos h0])
    have heb : (er == 0) = false := by simpa using h0
    clear her h0 hm1 hm2
    go_enter Tryz.func120, Tryz.ntmps120
    go_wp2_with fail
    rw [← HX.out]
    refine HH.out.mono ?_
    rintro e w' ⟨rfl, rfl⟩
    go_wp2
    go_ret
    exact ⟨own1, g1, by rw [HA.out]; rfl, by rw [HA.out]; exact HR.out, by rw [HA.out]; exact HB.out, HF.out.weak _⟩
set_option maxHeartbeats 2000000 in
set_option maxRecDepth 100000 in
theorem receive_any (own : Own) (w : World) (p : Nat) (s : St) (g : Gh) (dh m : Int) (h : Rep own w p s g) (ht : s.told.length ≤ 1099511627776) (hh : (Lit.int .i64 dh).wf = true) (hm : (Lit.int .i64 m).wf = true) (hts : ∀ c ∈ s.ch, c.text.size ≤ 281474976710656) :
    Calls Tryz.prog 58 #[.pointer (some ⟨p, 0, none⟩), .int .i64 dh, .int .i64 m] w (Ops own w p s ⟨12, dh, noS, noS, m, 0⟩ (actReceive dh m) fun d => .tuple #[.string d.text, .int .i64 d.err]) := by
  obtain ⟨W, hW⟩ : ∃ W, W = (((w.alloc (.cells #[.pointer (some ⟨p, 0, none⟩)] 29)).alloc (.cells #[.int .i64 dh] 3)).alloc (.cells #[.int .i64 m] 3)).alloc (.cells #[.int .u8 12, .int .i64 dh, .string noS, .string noS, .int .i64 m, .int .i64 0] 82) := ⟨_, rfl⟩
  have hB : Below w.heap.size w W := by rw [hW]; exact ((((Below.refl _ _).alloc (Nat.le_refl _) _).alloc (by simp) _).alloc (by simp; omega) _).alloc (by simp; omega) _
  have b0 : W.heap[w.heap.size]? = some (.cells #[.pointer (some ⟨p, 0, none⟩)] 29 (0, 0)) := by rw [hW]; exact (Below.heap_alloc _ _ _ (by simp; omega)).trans ((Below.heap_alloc _ _ _ (by simp; omega)).trans (alloc2_a w _ _))
  have b1 : W.heap[w.heap.size + 1]? = some (.cells #[.int .i64 dh] 3 (0, 0)) := by rw [hW]; exact (Below.heap_alloc _ _ _ (by simp; try omega)).trans ((Below.heap_alloc _ _ _ (by simp)).trans (alloc2_b w _ _))
  have b2 : W.heap[w.heap.size + 2]? = some (.cells #[.int .i64 m] 3 (0, 0)) := by rw [hW]; exact (Below.heap_alloc _ _ _ (by simp)).trans (by have := heap_alloc_new ((w.alloc (.cells #[.pointer (some ⟨p, 0, none⟩)] 29)).alloc (.cells #[.int .i64 dh] 3)) (.cells #[.int .i64 m] 3); simpa using this)
  have hRW := h.below hB (Nat.le_refl _)
  have hP := perform_any own W p s g hRW 12 dh noS noS m 120 #[.pointer (some ⟨w.heap.size, 0, none⟩), .pointer (some ⟨w.heap.size + 1, 0, none⟩), .pointer (some ⟨w.heap.size + 2, 0, none⟩)] (actReceive dh m) (Go.Proofs.enters_of Tryz.func120 (by kernel_rfl) rfl)
    (Receive1_does own W p s dh m _ _ _ b0 (owns_none h.owns (Nat.le_refl _)) b1 (owns_none h.owns (by omega)) b2 (owns_none h.owns (by omega)) hh hm hts) ht (told_receive _ _ _ _ _)
  have HP := Lib.hid hP
  have HW := Lib.hid hW
  have HFW := Lib.hid (Fr.of_below (own := own) hB (Nat.le_refl _) noE)
  clear hP hW b0 b1 b2 hRW hB h hts
  go_enter Tryz.func58, Tryz.ntmps58
  go_wp2_with fail
  rw [show ((((w.alloc (.cells #[.pointer (some ⟨p, 0, none⟩)] 29)).alloc (.cells #[.int .i64 dh] 3)).alloc (.cells #[.int .i64 m] 3)).alloc (.cells #[.int .u8 12, .int .i64 dh, .string ⟨#[]⟩, .string ⟨#[]⟩, .int .i64 m, .int .i64 0] 82)) = W from HW.out.symm]
  refine HP.out.mono ?_
  rintro e w1 ⟨own', g', rfl, hR, hF⟩
  obtain ⟨r, hr⟩ : ∃ r, r = perform s ⟨12, dh, noS, noS, m, 0⟩ (actReceive dh m) := ⟨_, rfl⟩
  rw [← hr] at hR
  rw [← hr]
  obtain ⟨s', a0, a1, a2, a3, a4, a5⟩ := r
  have HF := Lib.hid hF
  have HPR := Lib.hid hr
  have HR := Lib.hid hR
  clear HP hF hr hR
  have e0 : (ddcells ⟨a0, a1, a2, a3, a4, a5⟩).toArray = #[.int .u8 a0, .int .i64 a1, .string a2, .string a3, .int .i64 a4, .int .i64 a5] := rfl
  simp only [e0]
  clear e0
  go_wp2
  go_quiet (fail)
  go_wp2
  go_ret2
  refine ⟨own', g', by rw [← HPR.out]; rfl, by rw [← HPR.out]; exact rep_drew (alloc_rep HR.out _).1 _, (HFW.out.trans HF.out).trans ((alloc_rep HR.out _).2.trans (fr_drew _ _))⟩
end Go.Proofs.YtpkhghjmelgpeaaGreat.Wk
set_option linter.unusedVariables false
namespace Go.Proofs.YtpkhghjmelgpeaaGreat.Wk
open Go.ChangeShapes Go.WideShapes Go.ChangeAt Go.RowKit M Go.Maps Go.Proofs

/-- Which operation an act is. -/
def opOf (x : Ac) : Option (Dd × (St → Ch → Dd → St × Dd)) :=
  if x.kind = 1 then some (⟨1, 0, x.name, noS, x.h, 0⟩, actOpen x.name x.h)
  else if x.kind = 2 then some (⟨2, x.h, noS, noS, x.n, 0⟩, M.onFile (actRead x.n))
  else if x.kind = 3 then some (⟨3, x.h, x.text, noS, 0, 0⟩, M.onFile (actWrite x.text))
  else if x.kind = 4 then some (⟨4, x.h, noS, noS, x.n, 0⟩, M.onFile (actSeek x.n))
  else if x.kind = 5 then some (⟨5, x.h, noS, noS, 0, 0⟩, M.onFile actSync)
  else if x.kind = 6 then some (⟨6, x.h, noS, noS, 0, 0⟩, actClose x.h)
  else if x.kind = 7 then some (⟨7, 0, x.name, x.text, 0, 0⟩, actRename x.name x.text)
  else if x.kind = 8 then some (⟨8, 0, x.name, noS, 0, 0⟩, actDelete x.name)
  else if x.kind = 9 then some (⟨9, 0, noS, noS, 0, 0⟩, actClock)
  else if x.kind = 10 then some (⟨10, 0, x.name, noS, 0, 0⟩, actConnect x.name)
  else if x.kind = 11 then some (⟨11, x.h, x.text, noS, 0, 0⟩, actSend x.h)
  else if x.kind = 12 then some (⟨12, x.h, noS, noS, x.n, 0⟩, actReceive x.h x.n)
  else if x.kind = 13 then some (⟨13, 0, x.text, noS, 0, 0⟩, actNone)
  else if x.kind = 14 then some (⟨14, 0, noS, noS, x.n, 0⟩, actNone)
  else none
def call (s : St) (x : Ac) : St × Int := match opOf x with | none => (s, 0) | some r => ((perform s r.1 r.2).1, (perform s r.1 r.2).2.err)
theorem call_op {s : St} {x : Ac} {d : Dd} {a : St → Ch → Dd → St × Dd} (h : opOf x = some (d, a)) : call s x = ((perform s d a).1, (perform s d a).2.err) := by unfold call; rw [h]
def CallE (own : Own) (w : World) (p : Nat) (r : St × Int) (e : Ending) (w' : World) : Prop :=
  ∃ own' g', e = .returned (.int .i64 r.2) ∧ Rep own' w' p r.1 g' ∧ Fr own w own' w' noE

set_option maxHeartbeats 2000000 in
set_option maxRecDepth 100000 in
theorem call_Open (own : Own) (w : World) (p : Nat) (s : St) (g : Gh) (x : Ac) (hx : okAc x) (h : Rep own w p s g) (ht : s.told.length ≤ 1099511627776) (hw : s.writes ≤ 1099511627776) (hhl : s.hs.length ≤ 1099511627776) (hts : ∀ c ∈ s.ch, c.text.size ≤ 281474976710656) (hk : x.kind = 1) :
    Calls Tryz.prog 22 #[.pointer (some ⟨p, 0, none⟩), .agg (accells x).toArray] w (CallE own w p (call s x)) := by
  obtain ⟨W, hW⟩ : ∃ W, W = w.alloc (.cells #[.int .i64 1, .string x.name, .string x.text, .int .i64 x.h, .int .i64 x.n] 53) := ⟨_, rfl⟩
  have hB : Below w.heap.size w W := by rw [hW]; exact (Below.refl _ _).alloc (Nat.le_refl _) _
  have hRW := h.below hB (Nat.le_refl _)
  have hP := Lib.hid (open_any own W p s g x.name x.h hRW ht hx.2.1 hw hhl)
  have hC : Hid (call s x = ((perform s ⟨1, 0, x.name, noS, x.h, 0⟩ (actOpen x.name x.h)).1, (perform s ⟨1, 0, x.name, noS, x.h, 0⟩ (actOpen x.name x.h)).2.err)) := Lib.hid (call_op (by unfold opOf; simp [hk]))
  have e0 : (accells x).toArray = #[.int .i64 1, .string x.name, .string x.text, .int .i64 x.h, .int .i64 x.n] := by unfold accells; rw [hk]
  rw [e0]
  have HW := Lib.hid hW
  have HFW := Lib.hid (Fr.of_below (own := own) hB (Nat.le_refl _) noE)
  clear hW hB hRW h hk e0 ht hw hhl hts hx
  go_enter Tryz.func22, Tryz.ntmps22
  go_wp2_with fail
  rw [← HW.out]
  refine hP.out.mono ?_
  rintro e w1 ⟨own', g', rfl, hR, hF⟩
  obtain ⟨r, hr⟩ : ∃ r, r = perform s ⟨1, 0, x.name, noS, x.h, 0⟩ (actOpen x.name x.h) := ⟨_, rfl⟩
  rw [← hr] at hR
  rw [← hr]
  obtain ⟨s', a0, a1, a2, a3, a4, a5⟩ := r
  have HF := Lib.hid hF
  have HPR := Lib.hid hr
  have HR := Lib.hid hR
  clear hP hF hr hR
  go_wp2
  go_ret
  exact ⟨own', g', by rw [hC.out, ← HPR.out]; rfl, by rw [hC.out, ← HPR.out]; exact HR.out, HFW.out.trans HF.out⟩

set_option maxHeartbeats 2000000 in
set_option maxRecDepth 100000 in
theorem call_Read (own : Own) (w : World) (p : Nat) (s : St) (g : Gh) (x : Ac) (hx : okAc x) (h : Rep own w p s g) (ht : s.told.length ≤ 1099511627776) (hw : s.writes ≤ 1099511627776) (hhl : s.hs.length ≤ 1099511627776) (hts : ∀ c ∈ s.ch, c.text.size ≤ 281474976710656) (hk : x.kind = 2) :
    Calls Tryz.prog 22 #[.pointer (some ⟨p, 0, none⟩), .agg (accells x).toArray] w (CallE own w p (call s x)) := by
  obtain ⟨W, hW⟩ : ∃ W, W = w.alloc (.cells #[.int .i64 2, .string x.name, .string x.text, .int .i64 x.h, .int .i64 x.n] 53) := ⟨_, rfl⟩
  have hB : Below w.heap.size w W := by rw [hW]; exact (Below.refl _ _).alloc (Nat.le_refl _) _
  have hRW := h.below hB (Nat.le_refl _)
  have hP := Lib.hid (read_any own W p s g x.h x.n hRW ht hx.2.2.2.1 hx.2.2.2.2)
  have hC : Hid (call s x = ((perform s ⟨2, x.h, noS, noS, x.n, 0⟩ (M.onFile (actRead x.n))).1, (perform s ⟨2, x.h, noS, noS, x.n, 0⟩ (M.onFile (actRead x.n))).2.err)) := Lib.hid (call_op (by unfold opOf; simp [hk]))
  have e0 : (accells x).toArray = #[.int .i64 2, .string x.name, .string x.text, .int .i64 x.h, .int .i64 x.n] := by unfold accells; rw [hk]
  rw [e0]
  have HW := Lib.hid hW
  have HFW := Lib.hid (Fr.of_below (own := own) hB (Nat.le_refl _) noE)
  clear hW hB hRW h hk e0 ht hw hhl hts hx
  go_enter Tryz.func22, Tryz.ntmps22
  go_wp2_with fail
  rw [← HW.out]
  refine hP.out.mono ?_
  rintro e w1 ⟨own', g', rfl, hR, hF⟩
  obtain ⟨r, hr⟩ : ∃ r, r = perform s ⟨2, x.h, noS, noS, x.n, 0⟩ (M.onFile (actRead x.n)) := ⟨_, rfl⟩
  rw [← hr] at hR
  rw [← hr]
  obtain ⟨s', a0, a1, a2, a3, a4, a5⟩ := r
  have HF := Lib.hid hF
  have HPR := Lib.hid hr
  have HR := Lib.hid hR
  clear hP hF hr hR
  go_wp2
  go_ret
  exact ⟨own', g', by rw [hC.out, ← HPR.out]; rfl, by rw [hC.out, ← HPR.out]; exact HR.out, HFW.out.trans HF.out⟩

set_option maxHeartbeats 2000000 in
set_option maxRecDepth 100000 in
theorem call_Write (own : Own) (w : World) (p : Nat) (s : St) (g : Gh) (x : Ac) (hx : okAc x) (h : Rep own w p s g) (ht : s.told.length ≤ 1099511627776) (hw : s.writes ≤ 1099511627776) (hhl : s.hs.length ≤ 1099511627776) (hts : ∀ c ∈ s.ch, c.text.size ≤ 281474976710656) (hk : x.kind = 3) :
    Calls Tryz.prog 22 #[.pointer (some ⟨p, 0, none⟩), .agg (accells x).toArray] w (CallE own w p (call s x)) := by
  obtain ⟨W, hW⟩ : ∃ W, W = w.alloc (.cells #[.int .i64 3, .string x.name, .string x.text, .int .i64 x.h, .int .i64 x.n] 53) := ⟨_, rfl⟩
  have hB : Below w.heap.size w W := by rw [hW]; exact (Below.refl _ _).alloc (Nat.le_refl _) _
  have hRW := h.below hB (Nat.le_refl _)
  have hP := Lib.hid (write_any own W p s g x.h x.text hRW ht hx.2.2.2.1 hw hx.2.2.1)
  have hC : Hid (call s x = ((perform s ⟨3, x.h, x.text, noS, 0, 0⟩ (M.onFile (actWrite x.text))).1, (perform s ⟨3, x.h, x.text, noS, 0, 0⟩ (M.onFile (actWrite x.text))).2.err)) := Lib.hid (call_op (by unfold opOf; simp [hk]))
  have e0 : (accells x).toArray = #[.int .i64 3, .string x.name, .string x.text, .int .i64 x.h, .int .i64 x.n] := by unfold accells; rw [hk]
  rw [e0]
  have HW := Lib.hid hW
  have HFW := Lib.hid (Fr.of_below (own := own) hB (Nat.le_refl _) noE)
  clear hW hB hRW h hk e0 ht hw hhl hts hx
  go_enter Tryz.func22, Tryz.ntmps22
  go_wp2_with fail
  rw [← HW.out]
  refine hP.out.mono ?_
  rintro e w1 ⟨own', g', rfl, hR, hF⟩
  obtain ⟨r, hr⟩ : ∃ r, r = perform s ⟨3, x.h, x.text, noS, 0, 0⟩ (M.onFile (actWrite x.text)) := ⟨_, rfl⟩
  rw [← hr] at hR
  rw [← hr]
  obtain ⟨s', a0, a1, a2, a3, a4, a5⟩ := r
  have HF := Lib.hid hF
  have HPR := Lib.hid hr
  have HR := Lib.hid hR
  clear hP hF hr hR
  go_wp2
  go_ret
  exact ⟨own', g', by rw [hC.out, ← HPR.out]; rfl, by rw [hC.out, ← HPR.out]; exact HR.out, HFW.out.trans HF.out⟩

set_option maxHeartbeats 2000000 in
set_option maxRecDepth 100000 in
theorem call_Seek (own : Own) (w : World) (p : Nat) (s : St) (g : Gh) (x : Ac) (hx : okAc x) (h : Rep own w p s g) (ht : s.told.length ≤ 1099511627776) (hw : s.writes ≤ 1099511627776) (hhl : s.hs.length ≤ 1099511627776) (hts : ∀ c ∈ s.ch, c.text.size ≤ 281474976710656) (hk : x.kind = 4) :
    Calls Tryz.prog 22 #[.pointer (some ⟨p, 0, none⟩), .agg (accells x).toArray] w (CallE own w p (call s x)) := by
  obtain ⟨W, hW⟩ : ∃ W, W = w.alloc (.cells #[.int .i64 4, .string x.name, .string x.text, .int .i64 x.h, .int .i64 x.n] 53) := ⟨_, rfl⟩
  have hB : Below w.heap.size w W := by rw [hW]; exact (Below.refl _ _).alloc (Nat.le_refl _) _
  have hRW := h.below hB (Nat.le_refl _)
  have hP := Lib.hid (seek_any own W p s g x.h x.n hRW ht hx.2.2.2.1 hx.2.2.2.2)
  have hC : Hid (call s x = ((perform s ⟨4, x.h, noS, noS, x.n, 0⟩ (M.onFile (actSeek x.n))).1, (perform s ⟨4, x.h, noS, noS, x.n, 0⟩ (M.onFile (actSeek x.n))).2.err)) := Lib.hid (call_op (by unfold opOf; simp [hk]))
  have e0 : (accells x).toArray = #[.int .i64 4, .string x.name, .string x.text, .int .i64 x.h, .int .i64 x.n] := by unfold accells; rw [hk]
  rw [e0]
  have HW := Lib.hid hW
  have HFW := Lib.hid (Fr.of_below (own := own) hB (Nat.le_refl _) noE)
  clear hW hB hRW h hk e0 ht hw hhl hts hx
  go_enter Tryz.func22, Tryz.ntmps22
  go_wp2_with fail
  rw [← HW.out]
  refine hP.out.mono ?_
  rintro e w1 ⟨own', g', rfl, hR, hF⟩
  obtain ⟨r, hr⟩ : ∃ r, r = perform s ⟨4, x.h, noS, noS, x.n, 0⟩ (M.onFile (actSeek x.n)) := ⟨_, rfl⟩
  rw [← hr] at hR
  rw [← hr]
  obtain ⟨s', a0, a1, a2, a3, a4, a5⟩ := r
  have HF := Lib.hid hF
  have HPR := Lib.hid hr
  have HR := Lib.hid hR
  clear hP hF hr hR
  go_wp2
  go_ret
  exact ⟨own', g', by rw [hC.out, ← HPR.out]; rfl, by rw [hC.out, ← HPR.out]; exact HR.out, HFW.out.trans HF.out⟩

set_option maxHeartbeats 2000000 in
set_option maxRecDepth 100000 in
theorem call_Sync (own : Own) (w : World) (p : Nat) (s : St) (g : Gh) (x : Ac) (hx : okAc x) (h : Rep own w p s g) (ht : s.told.length ≤ 1099511627776) (hw : s.writes ≤ 1099511627776) (hhl : s.hs.length ≤ 1099511627776) (hts : ∀ c ∈ s.ch, c.text.size ≤ 281474976710656) (hk : x.kind = 5) :
    Calls Tryz.prog 22 #[.pointer (some ⟨p, 0, none⟩), .agg (accells x).toArray] w (CallE own w p (call s x)) := by
  obtain ⟨W, hW⟩ : ∃ W, W = w.alloc (.cells #[.int .i64 5, .string x.name, .string x.text, .int .i64 x.h, .int .i64 x.n] 53) := ⟨_, rfl⟩
  have hB : Below w.heap.size w W := by rw [hW]; exact (Below.refl _ _).alloc (Nat.le_refl _) _
  have hRW := h.below hB (Nat.le_refl _)
  have hP := Lib.hid (syncop_any own W p s g x.h hRW ht hx.2.2.2.1 hw)
  have hC : Hid (call s x = ((perform s ⟨5, x.h, noS, noS, 0, 0⟩ (M.onFile actSync)).1, (perform s ⟨5, x.h, noS, noS, 0, 0⟩ (M.onFile actSync)).2.err)) := Lib.hid (call_op (by unfold opOf; simp [hk]))
  have e0 : (accells x).toArray = #[.int .i64 5, .string x.name, .string x.text, .int .i64 x.h, .int .i64 x.n] := by unfold accells; rw [hk]
  rw [e0]
  have HW := Lib.hid hW
  have HFW := Lib.hid (Fr.of_below (own := own) hB (Nat.le_refl _) noE)
  clear hW hB hRW h hk e0 ht hw hhl hts hx
  go_enter Tryz.func22, Tryz.ntmps22
  go_wp2_with fail
  rw [← HW.out]
  refine hP.out.mono ?_
  rintro e w1 ⟨own', g', rfl, hR, hF⟩
  obtain ⟨r, hr⟩ : ∃ r, r = perform s ⟨5, x.h, noS, noS, 0, 0⟩ (M.onFile actSync) := ⟨_, rfl⟩
  rw [← hr] at hR
  rw [← hr]
  obtain ⟨s', a0, a1, a2, a3, a4, a5⟩ := r
  have HF := Lib.hid hF
  have HPR := Lib.hid hr
  have HR := Lib.hid hR
  clear hP hF hr hR
  go_wp2
  go_ret
  exact ⟨own', g', by rw [hC.out, ← HPR.out]; rfl, by rw [hC.out, ← HPR.out]; exact HR.out, HFW.out.trans HF.out⟩

set_option maxHeartbeats 2000000 in
set_option maxRecDepth 100000 in
theorem call_Close (own : Own) (w : World) (p : Nat) (s : St) (g : Gh) (x : Ac) (hx : okAc x) (h : Rep own w p s g) (ht : s.told.length ≤ 1099511627776) (hw : s.writes ≤ 1099511627776) (hhl : s.hs.length ≤ 1099511627776) (hts : ∀ c ∈ s.ch, c.text.size ≤ 281474976710656) (hk : x.kind = 6) :
    Calls Tryz.prog 22 #[.pointer (some ⟨p, 0, none⟩), .agg (accells x).toArray] w (CallE own w p (call s x)) := by
  obtain ⟨W, hW⟩ : ∃ W, W = w.alloc (.cells #[.int .i64 6, .string x.name, .string x.text, .int .i64 x.h, .int .i64 x.n] 53) := ⟨_, rfl⟩
  have hB : Below w.heap.size w W := by rw [hW]; exact (Below.refl _ _).alloc (Nat.le_refl _) _
  have hRW := h.below hB (Nat.le_refl _)
  have hP := Lib.hid (closes_any own W p s g x.h hRW ht hx.2.2.2.1)
  have hC : Hid (call s x = ((perform s ⟨6, x.h, noS, noS, 0, 0⟩ (actClose x.h)).1, (perform s ⟨6, x.h, noS, noS, 0, 0⟩ (actClose x.h)).2.err)) := Lib.hid (call_op (by unfold opOf; simp [hk]))
  have e0 : (accells x).toArray = #[.int .i64 6, .string x.name, .string x.text, .int .i64 x.h, .int .i64 x.n] := by unfold accells; rw [hk]
  rw [e0]
  have HW := Lib.hid hW
  have HFW := Lib.hid (Fr.of_below (own := own) hB (Nat.le_refl _) noE)
  clear hW hB hRW h hk e0 ht hw hhl hts hx
  go_enter Tryz.func22, Tryz.ntmps22
  go_wp2_with fail
  rw [← HW.out]
  refine hP.out.mono ?_
  rintro e w1 ⟨own', g', rfl, hR, hF⟩
  obtain ⟨r, hr⟩ : ∃ r, r = perform s ⟨6, x.h, noS, noS, 0, 0⟩ (actClose x.h) := ⟨_, rfl⟩
  rw [← hr] at hR
  rw [← hr]
  obtain ⟨s', a0, a1, a2, a3, a4, a5⟩ := r
  have HF := Lib.hid hF
  have HPR := Lib.hid hr
  have HR := Lib.hid hR
  clear hP hF hr hR
  go_wp2
  go_ret
  exact ⟨own', g', by rw [hC.out, ← HPR.out]; rfl, by rw [hC.out, ← HPR.out]; exact HR.out, HFW.out.trans HF.out⟩

set_option maxHeartbeats 2000000 in
set_option maxRecDepth 100000 in
theorem call_Rename (own : Own) (w : World) (p : Nat) (s : St) (g : Gh) (x : Ac) (hx : okAc x) (h : Rep own w p s g) (ht : s.told.length ≤ 1099511627776) (hw : s.writes ≤ 1099511627776) (hhl : s.hs.length ≤ 1099511627776) (hts : ∀ c ∈ s.ch, c.text.size ≤ 281474976710656) (hk : x.kind = 7) :
    Calls Tryz.prog 22 #[.pointer (some ⟨p, 0, none⟩), .agg (accells x).toArray] w (CallE own w p (call s x)) := by
  obtain ⟨W, hW⟩ : ∃ W, W = w.alloc (.cells #[.int .i64 7, .string x.name, .string x.text, .int .i64 x.h, .int .i64 x.n] 53) := ⟨_, rfl⟩
  have hB : Below w.heap.size w W := by rw [hW]; exact (Below.refl _ _).alloc (Nat.le_refl _) _
  have hRW := h.below hB (Nat.le_refl _)
  have hP := Lib.hid (rename_any own W p s g x.name x.text hRW ht hx.2.1 hx.2.2.1)
  have hC : Hid (call s x = ((perform s ⟨7, 0, x.name, x.text, 0, 0⟩ (actRename x.name x.text)).1, (perform s ⟨7, 0, x.name, x.text, 0, 0⟩ (actRename x.name x.text)).2.err)) := Lib.hid (call_op (by unfold opOf; simp [hk]))
  have e0 : (accells x).toArray = #[.int .i64 7, .string x.name, .string x.text, .int .i64 x.h, .int .i64 x.n] := by unfold accells; rw [hk]
  rw [e0]
  have HW := Lib.hid hW
  have HFW := Lib.hid (Fr.of_below (own := own) hB (Nat.le_refl _) noE)
  clear hW hB hRW h hk e0 ht hw hhl hts hx
  go_enter Tryz.func22, Tryz.ntmps22
  go_wp2_with fail
  rw [← HW.out]
  refine hP.out.mono ?_
  rintro e w1 ⟨own', g', rfl, hR, hF⟩
  obtain ⟨r, hr⟩ : ∃ r, r = perform s ⟨7, 0, x.name, x.text, 0, 0⟩ (actRename x.name x.text) := ⟨_, rfl⟩
  rw [← hr] at hR
  rw [← hr]
  obtain ⟨s', a0, a1, a2, a3, a4, a5⟩ := r
  have HF := Lib.hid hF
  have HPR := Lib.hid hr
  have HR := Lib.hid hR
  clear hP hF hr hR
  go_wp2
  go_ret
  exact ⟨own', g', by rw [hC.out, ← HPR.out]; rfl, by rw [hC.out, ← HPR.out]; exact HR.out, HFW.out.trans HF.out⟩

set_option maxHeartbeats 2000000 in
set_option maxRecDepth 100000 in
theorem call_Delete (own : Own) (w : World) (p : Nat) (s : St) (g : Gh) (x : Ac) (hx : okAc x) (h : Rep own w p s g) (ht : s.told.length ≤ 1099511627776) (hw : s.writes ≤ 1099511627776) (hhl : s.hs.length ≤ 1099511627776) (hts : ∀ c ∈ s.ch, c.text.size ≤ 281474976710656) (hk : x.kind = 8) :
    Calls Tryz.prog 22 #[.pointer (some ⟨p, 0, none⟩), .agg (accells x).toArray] w (CallE own w p (call s x)) := by
  obtain ⟨W, hW⟩ : ∃ W, W = w.alloc (.cells #[.int .i64 8, .string x.name, .string x.text, .int .i64 x.h, .int .i64 x.n] 53) := ⟨_, rfl⟩
  have hB : Below w.heap.size w W := by rw [hW]; exact (Below.refl _ _).alloc (Nat.le_refl _) _
  have hRW := h.below hB (Nat.le_refl _)
  have hP := Lib.hid (delete_any own W p s g x.name hRW ht hx.2.1)
  have hC : Hid (call s x = ((perform s ⟨8, 0, x.name, noS, 0, 0⟩ (actDelete x.name)).1, (perform s ⟨8, 0, x.name, noS, 0, 0⟩ (actDelete x.name)).2.err)) := Lib.hid (call_op (by unfold opOf; simp [hk]))
  have e0 : (accells x).toArray = #[.int .i64 8, .string x.name, .string x.text, .int .i64 x.h, .int .i64 x.n] := by unfold accells; rw [hk]
  rw [e0]
  have HW := Lib.hid hW
  have HFW := Lib.hid (Fr.of_below (own := own) hB (Nat.le_refl _) noE)
  clear hW hB hRW h hk e0 ht hw hhl hts hx
  go_enter Tryz.func22, Tryz.ntmps22
  go_wp2_with fail
  rw [← HW.out]
  refine hP.out.mono ?_
  rintro e w1 ⟨own', g', rfl, hR, hF⟩
  obtain ⟨r, hr⟩ : ∃ r, r = perform s ⟨8, 0, x.name, noS, 0, 0⟩ (actDelete x.name) := ⟨_, rfl⟩
  rw [← hr] at hR
  rw [← hr]
  obtain ⟨s', a0, a1, a2, a3, a4, a5⟩ := r
  have HF := Lib.hid hF
  have HPR := Lib.hid hr
  have HR := Lib.hid hR
  clear hP hF hr hR
  go_wp2
  go_ret
  exact ⟨own', g', by rw [hC.out, ← HPR.out]; rfl, by rw [hC.out, ← HPR.out]; exact HR.out, HFW.out.trans HF.out⟩

set_option maxHeartbeats 2000000 in
set_option maxRecDepth 100000 in
theorem call_Clock (own : Own) (w : World) (p : Nat) (s : St) (g : Gh) (x : Ac) (hx : okAc x) (h : Rep own w p s g) (ht : s.told.length ≤ 1099511627776) (hw : s.writes ≤ 1099511627776) (hhl : s.hs.length ≤ 1099511627776) (hts : ∀ c ∈ s.ch, c.text.size ≤ 281474976710656) (hk : x.kind = 9) :
    Calls Tryz.prog 22 #[.pointer (some ⟨p, 0, none⟩), .agg (accells x).toArray] w (CallE own w p (call s x)) := by
  obtain ⟨W, hW⟩ : ∃ W, W = w.alloc (.cells #[.int .i64 9, .string x.name, .string x.text, .int .i64 x.h, .int .i64 x.n] 53) := ⟨_, rfl⟩
  have hB : Below w.heap.size w W := by rw [hW]; exact (Below.refl _ _).alloc (Nat.le_refl _) _
  have hRW := h.below hB (Nat.le_refl _)
  have hP := Lib.hid (clock_any own W p s g hRW ht)
  have hC : Hid (call s x = ((perform s ⟨9, 0, noS, noS, 0, 0⟩ (actClock)).1, (perform s ⟨9, 0, noS, noS, 0, 0⟩ (actClock)).2.err)) := Lib.hid (call_op (by unfold opOf; simp [hk]))
  have e0 : (accells x).toArray = #[.int .i64 9, .string x.name, .string x.text, .int .i64 x.h, .int .i64 x.n] := by unfold accells; rw [hk]
  rw [e0]
  have HW := Lib.hid hW
  have HFW := Lib.hid (Fr.of_below (own := own) hB (Nat.le_refl _) noE)
  clear hW hB hRW h hk e0 ht hw hhl hts hx
  go_enter Tryz.func22, Tryz.ntmps22
  go_wp2_with fail
  rw [← HW.out]
  refine hP.out.mono ?_
  rintro e w1 ⟨own', g', rfl, hR, hF⟩
  obtain ⟨r, hr⟩ : ∃ r, r = perform s ⟨9, 0, noS, noS, 0, 0⟩ (actClock) := ⟨_, rfl⟩
  rw [← hr] at hR
  rw [← hr]
  obtain ⟨s', a0, a1, a2, a3, a4, a5⟩ := r
  have HF := Lib.hid hF
  have HPR := Lib.hid hr
  have HR := Lib.hid hR
  clear hP hF hr hR
  go_wp2
  go_ret
  exact ⟨own', g', by rw [hC.out, ← HPR.out]; rfl, by rw [hC.out, ← HPR.out]; exact HR.out, HFW.out.trans HF.out⟩

set_option maxHeartbeats 2000000 in
set_option maxRecDepth 100000 in
theorem call_Connect (own : Own) (w : World) (p : Nat) (s : St) (g : Gh) (x : Ac) (hx : okAc x) (h : Rep own w p s g) (ht : s.told.length ≤ 1099511627776) (hw : s.writes ≤ 1099511627776) (hhl : s.hs.length ≤ 1099511627776) (hts : ∀ c ∈ s.ch, c.text.size ≤ 281474976710656) (hk : x.kind = 10) :
    Calls Tryz.prog 22 #[.pointer (some ⟨p, 0, none⟩), .agg (accells x).toArray] w (CallE own w p (call s x)) := by
  obtain ⟨W, hW⟩ : ∃ W, W = w.alloc (.cells #[.int .i64 10, .string x.name, .string x.text, .int .i64 x.h, .int .i64 x.n] 53) := ⟨_, rfl⟩
  have hB : Below w.heap.size w W := by rw [hW]; exact (Below.refl _ _).alloc (Nat.le_refl _) _
  have hRW := h.below hB (Nat.le_refl _)
  have hP := Lib.hid (connect_any own W p s g x.name hRW ht hx.2.1 hhl)
  have hC : Hid (call s x = ((perform s ⟨10, 0, x.name, noS, 0, 0⟩ (actConnect x.name)).1, (perform s ⟨10, 0, x.name, noS, 0, 0⟩ (actConnect x.name)).2.err)) := Lib.hid (call_op (by unfold opOf; simp [hk]))
  have e0 : (accells x).toArray = #[.int .i64 10, .string x.name, .string x.text, .int .i64 x.h, .int .i64 x.n] := by unfold accells; rw [hk]
  rw [e0]
  have HW := Lib.hid hW
  have HFW := Lib.hid (Fr.of_below (own := own) hB (Nat.le_refl _) noE)
  clear hW hB hRW h hk e0 ht hw hhl hts hx
  go_enter Tryz.func22, Tryz.ntmps22
  go_wp2_with fail
  rw [← HW.out]
  refine hP.out.mono ?_
  rintro e w1 ⟨own', g', rfl, hR, hF⟩
  obtain ⟨r, hr⟩ : ∃ r, r = perform s ⟨10, 0, x.name, noS, 0, 0⟩ (actConnect x.name) := ⟨_, rfl⟩
  rw [← hr] at hR
  rw [← hr]
  obtain ⟨s', a0, a1, a2, a3, a4, a5⟩ := r
  have HF := Lib.hid hF
  have HPR := Lib.hid hr
  have HR := Lib.hid hR
  clear hP hF hr hR
  go_wp2
  go_ret
  exact ⟨own', g', by rw [hC.out, ← HPR.out]; rfl, by rw [hC.out, ← HPR.out]; exact HR.out, HFW.out.trans HF.out⟩

set_option maxHeartbeats 2000000 in
set_option maxRecDepth 100000 in
theorem call_Send (own : Own) (w : World) (p : Nat) (s : St) (g : Gh) (x : Ac) (hx : okAc x) (h : Rep own w p s g) (ht : s.told.length ≤ 1099511627776) (hw : s.writes ≤ 1099511627776) (hhl : s.hs.length ≤ 1099511627776) (hts : ∀ c ∈ s.ch, c.text.size ≤ 281474976710656) (hk : x.kind = 11) :
    Calls Tryz.prog 22 #[.pointer (some ⟨p, 0, none⟩), .agg (accells x).toArray] w (CallE own w p (call s x)) := by
  obtain ⟨W, hW⟩ : ∃ W, W = w.alloc (.cells #[.int .i64 11, .string x.name, .string x.text, .int .i64 x.h, .int .i64 x.n] 53) := ⟨_, rfl⟩
  have hB : Below w.heap.size w W := by rw [hW]; exact (Below.refl _ _).alloc (Nat.le_refl _) _
  have hRW := h.below hB (Nat.le_refl _)
  have hP := Lib.hid (send_any own W p s g x.h x.text hRW ht hx.2.2.2.1)
  have hC : Hid (call s x = ((perform s ⟨11, x.h, x.text, noS, 0, 0⟩ (actSend x.h)).1, (perform s ⟨11, x.h, x.text, noS, 0, 0⟩ (actSend x.h)).2.err)) := Lib.hid (call_op (by unfold opOf; simp [hk]))
  have e0 : (accells x).toArray = #[.int .i64 11, .string x.name, .string x.text, .int .i64 x.h, .int .i64 x.n] := by unfold accells; rw [hk]
  rw [e0]
  have HW := Lib.hid hW
  have HFW := Lib.hid (Fr.of_below (own := own) hB (Nat.le_refl _) noE)
  clear hW hB hRW h hk e0 ht hw hhl hts hx
  go_enter Tryz.func22, Tryz.ntmps22
  go_wp2_with fail
  rw [← HW.out]
  refine hP.out.mono ?_
  rintro e w1 ⟨own', g', rfl, hR, hF⟩
  obtain ⟨r, hr⟩ : ∃ r, r = perform s ⟨11, x.h, x.text, noS, 0, 0⟩ (actSend x.h) := ⟨_, rfl⟩
  rw [← hr] at hR
  rw [← hr]
  obtain ⟨s', a0, a1, a2, a3, a4, a5⟩ := r
  have HF := Lib.hid hF
  have HPR := Lib.hid hr
  have HR := Lib.hid hR
  clear hP hF hr hR
  go_wp2
  go_ret
  exact ⟨own', g', by rw [hC.out, ← HPR.out]; rfl, by rw [hC.out, ← HPR.out]; exact HR.out, HFW.out.trans HF.out⟩

set_option maxHeartbeats 2000000 in
set_option maxRecDepth 100000 in
theorem call_Receive (own : Own) (w : World) (p : Nat) (s : St) (g : Gh) (x : Ac) (hx : okAc x) (h : Rep own w p s g) (ht : s.told.length ≤ 1099511627776) (hw : s.writes ≤ 1099511627776) (hhl : s.hs.length ≤ 1099511627776) (hts : ∀ c ∈ s.ch, c.text.size ≤ 281474976710656) (hk : x.kind = 12) :
    Calls Tryz.prog 22 #[.pointer (some ⟨p, 0, none⟩), .agg (accells x).toArray] w (CallE own w p (call s x)) := by
  obtain ⟨W, hW⟩ : ∃ W, W = w.alloc (.cells #[.int .i64 12, .string x.name, .string x.text, .int .i64 x.h, .int .i64 x.n] 53) := ⟨_, rfl⟩
  have hB : Below w.heap.size w W := by rw [hW]; exact (Below.refl _ _).alloc (Nat.le_refl _) _
  have hRW := h.below hB (Nat.le_refl _)
  have hP := Lib.hid (receive_any own W p s g x.h x.n hRW ht hx.2.2.2.1 hx.2.2.2.2 hts)
  have hC : Hid (call s x = ((perform s ⟨12, x.h, noS, noS, x.n, 0⟩ (actReceive x.h x.n)).1, (perform s ⟨12, x.h, noS, noS, x.n, 0⟩ (actReceive x.h x.n)).2.err)) := Lib.hid (call_op (by unfold opOf; simp [hk]))
  have e0 : (accells x).toArray = #[.int .i64 12, .string x.name, .string x.text, .int .i64 x.h, .int .i64 x.n] := by unfold accells; rw [hk]
  rw [e0]
  have HW := Lib.hid hW
  have HFW := Lib.hid (Fr.of_below (own := own) hB (Nat.le_refl _) noE)
  clear hW hB hRW h hk e0 ht hw hhl hts hx
  go_enter Tryz.func22, Tryz.ntmps22
  go_wp2_with fail
  rw [← HW.out]
  refine hP.out.mono ?_
  rintro e w1 ⟨own', g', rfl, hR, hF⟩
  obtain ⟨r, hr⟩ : ∃ r, r = perform s ⟨12, x.h, noS, noS, x.n, 0⟩ (actReceive x.h x.n) := ⟨_, rfl⟩
  rw [← hr] at hR
  rw [← hr]
  obtain ⟨s', a0, a1, a2, a3, a4, a5⟩ := r
  have HF := Lib.hid hF
  have HPR := Lib.hid hr
  have HR := Lib.hid hR
  clear hP hF hr hR
  go_wp2
  go_ret
  exact ⟨own', g', by rw [hC.out, ← HPR.out]; rfl, by rw [hC.out, ← HPR.out]; exact HR.out, HFW.out.trans HF.out⟩

set_option maxHeartbeats 2000000 in
set_option maxRecDepth 100000 in
theorem call_Show (own : Own) (w : World) (p : Nat) (s : St) (g : Gh) (x : Ac) (hx : okAc x) (h : Rep own w p s g) (ht : s.told.length ≤ 1099511627776) (hw : s.writes ≤ 1099511627776) (hhl : s.hs.length ≤ 1099511627776) (hts : ∀ c ∈ s.ch, c.text.size ≤ 281474976710656) (hk : x.kind = 13) :
    Calls Tryz.prog 22 #[.pointer (some ⟨p, 0, none⟩), .agg (accells x).toArray] w (CallE own w p (call s x)) := by
  obtain ⟨W, hW⟩ : ∃ W, W = w.alloc (.cells #[.int .i64 13, .string x.name, .string x.text, .int .i64 x.h, .int .i64 x.n] 53) := ⟨_, rfl⟩
  have hB : Below w.heap.size w W := by rw [hW]; exact (Below.refl _ _).alloc (Nat.le_refl _) _
  have hRW := h.below hB (Nat.le_refl _)
  have hP := Lib.hid (show_any own W p s g x.text hRW ht)
  have hC : Hid (call s x = ((perform s ⟨13, 0, x.text, noS, 0, 0⟩ (actNone)).1, (perform s ⟨13, 0, x.text, noS, 0, 0⟩ (actNone)).2.err)) := Lib.hid (call_op (by unfold opOf; simp [hk]))
  have e0 : (accells x).toArray = #[.int .i64 13, .string x.name, .string x.text, .int .i64 x.h, .int .i64 x.n] := by unfold accells; rw [hk]
  rw [e0]
  have HW := Lib.hid hW
  have HFW := Lib.hid (Fr.of_below (own := own) hB (Nat.le_refl _) noE)
  clear hW hB hRW h hk e0 ht hw hhl hts hx
  go_enter Tryz.func22, Tryz.ntmps22
  go_wp2_with fail
  rw [← HW.out]
  refine hP.out.mono ?_
  rintro e w1 ⟨own', g', rfl, hR, hF⟩
  obtain ⟨r, hr⟩ : ∃ r, r = perform s ⟨13, 0, x.text, noS, 0, 0⟩ (actNone) := ⟨_, rfl⟩
  rw [← hr] at hR
  rw [← hr]
  obtain ⟨s', a0, a1, a2, a3, a4, a5⟩ := r
  have HF := Lib.hid hF
  have HPR := Lib.hid hr
  have HR := Lib.hid hR
  clear hP hF hr hR
  go_wp2
  go_ret
  exact ⟨own', g', by rw [hC.out, ← HPR.out]; rfl, by rw [hC.out, ← HPR.out]; exact HR.out, HFW.out.trans HF.out⟩

set_option maxHeartbeats 2000000 in
set_option maxRecDepth 100000 in
theorem call_Quit (own : Own) (w : World) (p : Nat) (s : St) (g : Gh) (x : Ac) (hx : okAc x) (h : Rep own w p s g) (ht : s.told.length ≤ 1099511627776) (hw : s.writes ≤ 1099511627776) (hhl : s.hs.length ≤ 1099511627776) (hts : ∀ c ∈ s.ch, c.text.size ≤ 281474976710656) (hk : x.kind = 14) :
    Calls Tryz.prog 22 #[.pointer (some ⟨p, 0, none⟩), .agg (accells x).toArray] w (CallE own w p (call s x)) := by
  obtain ⟨W, hW⟩ : ∃ W, W = w.alloc (.cells #[.int .i64 14, .string x.name, .string x.text, .int .i64 x.h, .int .i64 x.n] 53) := ⟨_, rfl⟩
  have hB : Below w.heap.size w W := by rw [hW]; exact (Below.refl _ _).alloc (Nat.le_refl _) _
  have hRW := h.below hB (Nat.le_refl _)
  have hP := Lib.hid (quit_any own W p s g x.n hRW ht)
  have hC : Hid (call s x = ((perform s ⟨14, 0, noS, noS, x.n, 0⟩ (actNone)).1, (perform s ⟨14, 0, noS, noS, x.n, 0⟩ (actNone)).2.err)) := Lib.hid (call_op (by unfold opOf; simp [hk]))
  have e0 : (accells x).toArray = #[.int .i64 14, .string x.name, .string x.text, .int .i64 x.h, .int .i64 x.n] := by unfold accells; rw [hk]
  rw [e0]
  have HW := Lib.hid hW
  have HFW := Lib.hid (Fr.of_below (own := own) hB (Nat.le_refl _) noE)
  clear hW hB hRW h hk e0 ht hw hhl hts hx
  go_enter Tryz.func22, Tryz.ntmps22
  go_wp2_with fail
  rw [← HW.out]
  refine hP.out.mono ?_
  rintro e w1 ⟨own', g', rfl, hR, hF⟩
  obtain ⟨r, hr⟩ : ∃ r, r = perform s ⟨14, 0, noS, noS, x.n, 0⟩ (actNone) := ⟨_, rfl⟩
  rw [← hr] at hR
  rw [← hr]
  obtain ⟨s', a0, a1, a2, a3, a4, a5⟩ := r
  have HF := Lib.hid hF
  have HPR := Lib.hid hr
  have HR := Lib.hid hR
  clear hP hF hr hR
  go_wp2
  go_ret
  exact ⟨own', g', by rw [hC.out, ← HPR.out]; rfl, by rw [hC.out, ← HPR.out]; exact HR.out, HFW.out.trans HF.out⟩

set_option maxHeartbeats 2000000 in
set_option maxRecDepth 100000 in
theorem call_none (own : Own) (w : World) (p : Nat) (s : St) (g : Gh) (x : Ac) (h : Rep own w p s g) (hk : ∀ k : Int, 1 ≤ k → k ≤ 14 → x.kind ≠ k) :
    Calls Tryz.prog 22 #[.pointer (some ⟨p, 0, none⟩), .agg (accells x).toArray] w (CallE own w p (call s x)) := by
  have hC : Hid (call s x = (s, 0)) := Lib.hid (by
    unfold call opOf
    rw [if_neg (hk 1 (by decide) (by decide)), if_neg (hk 2 (by decide) (by decide)), if_neg (hk 3 (by decide) (by decide)), if_neg (hk 4 (by decide) (by decide)), if_neg (hk 5 (by decide) (by decide)), if_neg (hk 6 (by decide) (by decide)), if_neg (hk 7 (by decide) (by decide)), if_neg (hk 8 (by decide) (by decide)), if_neg (hk 9 (by decide) (by decide)), if_neg (hk 10 (by decide) (by decide)), if_neg (hk 11 (by decide) (by decide)), if_neg (hk 12 (by decide) (by decide)), if_neg (hk 13 (by decide) (by decide)), if_neg (hk 14 (by decide) (by decide))])
  obtain ⟨kd, a1, a2, a3, a4⟩ := x
  simp only at hk
  have b1 : (kd == 1) = false := by simpa using hk 1 (by decide) (by decide)
  have b2 : (kd == 2) = false := by simpa using hk 2 (by decide) (by decide)
  have b3 : (kd == 3) = false := by simpa using hk 3 (by decide) (by decide)
  have b4 : (kd == 4) = false := by simpa using hk 4 (by decide) (by decide)
  have b5 : (kd == 5) = false := by simpa using hk 5 (by decide) (by decide)
  have b6 : (kd == 6) = false := by simpa using hk 6 (by decide) (by decide)
  have b7 : (kd == 7) = false := by simpa using hk 7 (by decide) (by decide)
  have b8 : (kd == 8) = false := by simpa using hk 8 (by decide) (by decide)
  have b9 : (kd == 9) = false := by simpa using hk 9 (by decide) (by decide)
  have b10 : (kd == 10) = false := by simpa using hk 10 (by decide) (by decide)
  have b11 : (kd == 11) = false := by simpa using hk 11 (by decide) (by decide)
  have b12 : (kd == 12) = false := by simpa using hk 12 (by decide) (by decide)
  have b13 : (kd == 13) = false := by simpa using hk 13 (by decide) (by decide)
  have b14 : (kd == 14) = false := by simpa using hk 14 (by decide) (by decide)
  have e0 : (accells ⟨kd, a1, a2, a3, a4⟩).toArray = #[.int .i64 kd, .string a1, .string a2, .int .i64 a3, .int .i64 a4] := rfl
  rw [e0]
  have HR := Lib.hid h
  clear h hk e0
  go_enter Tryz.func22, Tryz.ntmps22
  go_wp2
  go_ret
  have hz := alloc_rep HR.out (.cells #[.int .i64 kd, .string a1, .string a2, .int .i64 a3, .int .i64 a4] 53)
  exact ⟨own, g, by rw [hC.out]; rfl, by rw [hC.out]; exact hz.1, hz.2⟩
theorem call_any (own : Own) (w : World) (p : Nat) (s : St) (g : Gh) (x : Ac) (hx : okAc x) (h : Rep own w p s g) (ht : s.told.length ≤ 1099511627776) (hw : s.writes ≤ 1099511627776) (hhl : s.hs.length ≤ 1099511627776) (hts : ∀ c ∈ s.ch, c.text.size ≤ 281474976710656) :
    Calls Tryz.prog 22 #[.pointer (some ⟨p, 0, none⟩), .agg (accells x).toArray] w (CallE own w p (call s x)) := by
  by_cases h1 : x.kind = 1
  · exact call_Open own w p s g x hx h ht hw hhl hts h1
  by_cases h2 : x.kind = 2
  · exact call_Read own w p s g x hx h ht hw hhl hts h2
  by_cases h3 : x.kind = 3
  · exact call_Write own w p s g x hx h ht hw hhl hts h3
  by_cases h4 : x.kind = 4
  · exact call_Seek own w p s g x hx h ht hw hhl hts h4
  by_cases h5 : x.kind = 5
  · exact call_Sync own w p s g x hx h ht hw hhl hts h5
  by_cases h6 : x.kind = 6
  · exact call_Close own w p s g x hx h ht hw hhl hts h6
  by_cases h7 : x.kind = 7
  · exact call_Rename own w p s g x hx h ht hw hhl hts h7
  by_cases h8 : x.kind = 8
  · exact call_Delete own w p s g x hx h ht hw hhl hts h8
  by_cases h9 : x.kind = 9
  · exact call_Clock own w p s g x hx h ht hw hhl hts h9
  by_cases h10 : x.kind = 10
  · exact call_Connect own w p s g x hx h ht hw hhl hts h10
  by_cases h11 : x.kind = 11
  · exact call_Send own w p s g x hx h ht hw hhl hts h11
  by_cases h12 : x.kind = 12
  · exact call_Receive own w p s g x hx h ht hw hhl hts h12
  by_cases h13 : x.kind = 13
  · exact call_Show own w p s g x hx h ht hw hhl hts h13
  by_cases h14 : x.kind = 14
  · exact call_Quit own w p s g x hx h ht hw hhl hts h14
  refine call_none own w p s g x h fun k h1 h2 e => ?_
  have : k = 1 ∨ k = 2 ∨ k = 3 ∨ k = 4 ∨ k = 5 ∨ k = 6 ∨ k = 7 ∨ k = 8 ∨ k = 9 ∨ k = 10 ∨ k = 11 ∨ k = 12 ∨ k = 13 ∨ k = 14 := by omega
  rcases this with rfl | rfl | rfl | rfl | rfl | rfl | rfl | rfl | rfl | rfl | rfl | rfl | rfl | rfl <;> contradiction
end Go.Proofs.YtpkhghjmelgpeaaGreat.Wk
set_option linter.unusedVariables false
namespace Go.Proofs.YtpkhghjmelgpeaaGreat.Wk
open M

theorem call_within (s : St) (x : Ac) : Within s (call s x).1 := by
  unfold call
  cases hq : opOf x with
  | none => exact ⟨by simp, by simp, by simp, fun c hc => hc⟩
  | some r =>
    refine mild_perform ?_ s r.1
    unfold opOf at hq
    by_cases h1 : x.kind = 1
    · rw [if_pos h1] at hq; cases hq; exact mild_open _ _
    rw [if_neg h1] at hq
    by_cases h2 : x.kind = 2
    · rw [if_pos h2] at hq; cases hq; exact mild_read _
    rw [if_neg h2] at hq
    by_cases h3 : x.kind = 3
    · rw [if_pos h3] at hq; cases hq; exact mild_write _
    rw [if_neg h3] at hq
    by_cases h4 : x.kind = 4
    · rw [if_pos h4] at hq; cases hq; exact mild_seek _
    rw [if_neg h4] at hq
    by_cases h5 : x.kind = 5
    · rw [if_pos h5] at hq; cases hq; exact mild_sync
    rw [if_neg h5] at hq
    by_cases h6 : x.kind = 6
    · rw [if_pos h6] at hq; cases hq; exact mild_close _
    rw [if_neg h6] at hq
    by_cases h7 : x.kind = 7
    · rw [if_pos h7] at hq; cases hq; exact mild_rename _ _
    rw [if_neg h7] at hq
    by_cases h8 : x.kind = 8
    · rw [if_pos h8] at hq; cases hq; exact mild_delete _
    rw [if_neg h8] at hq
    by_cases h9 : x.kind = 9
    · rw [if_pos h9] at hq; cases hq; exact mild_clock
    rw [if_neg h9] at hq
    by_cases h10 : x.kind = 10
    · rw [if_pos h10] at hq; cases hq; exact mild_connect _
    rw [if_neg h10] at hq
    by_cases h11 : x.kind = 11
    · rw [if_pos h11] at hq; cases hq; exact mild_send _
    rw [if_neg h11] at hq
    by_cases h12 : x.kind = 12
    · rw [if_pos h12] at hq; cases hq; exact mild_receive _ _
    rw [if_neg h12] at hq
    by_cases h13 : x.kind = 13
    · rw [if_pos h13] at hq; cases hq; exact mild_none
    rw [if_neg h13] at hq
    by_cases h14 : x.kind = 14
    · rw [if_pos h14] at hq; cases hq; exact mild_none
    rw [if_neg h14] at hq
    cases hq
def calls (s : St) (l : List Ac) : St := l.foldl (fun s x => (call s x).1) s
theorem calls_snoc (s : St) (l : List Ac) (x : Ac) : calls s (l ++ [x]) = (call (calls s l) x).1 := by unfold calls; rw [List.foldl_append]; rfl
theorem calls_within : ∀ (l : List Ac) (s : St), (calls s l).told.length ≤ s.told.length + l.length ∧ (calls s l).writes ≤ s.writes + l.length ∧ (calls s l).hs.length ≤ s.hs.length + l.length ∧ ∀ c ∈ (calls s l).ch, c ∈ s.ch := by
  intro l
  induction l with
  | nil => intro s; exact ⟨Nat.le_refl _, Nat.le_refl _, Nat.le_refl _, fun c hc => hc⟩
  | cons x r ih =>
    intro s
    obtain ⟨i1, i2, i3, i4⟩ := ih (call s x).1
    have h := call_within s x
    have e : calls s (x :: r) = calls (call s x).1 r := rfl
    rw [e, List.length_cons]
    exact ⟨by have := h.told; omega, by have := h.writes; omega, by have := h.hs; omega, fun c hc => h.ch c (i4 c hc)⟩
end Go.Proofs.YtpkhghjmelgpeaaGreat.Wk
set_option linter.unusedVariables false
namespace Go.Proofs.YtpkhghjmelgpeaaGreat.Wk
open Go.ChangeShapes Go.WideShapes Go.ChangeAt Go.RowKit M

theorem fl_cells {w : World} {v : Value} {l : List (ByteArray × ByteArray)} (h : Row w 74 2 v l.length (l.flatMap flcells)) : ∃ a c, v = .slice a l.length c ∧ ∀ k x, l[k]? = some x → ∃ g, a = some ⟨g, 0, none⟩ ∧ g < w.heap.size ∧ w.cell? ⟨g, k * 2, none⟩ = some (.string x.1) ∧ w.cell? ⟨g, k * 2 + 1, none⟩ = some (.string x.2) := by
  obtain ⟨a, c, rfl, _, hc⟩ := h.cells
  refine ⟨a, c, rfl, fun k x hx => ?_⟩
  have hat := fun i hi => flat_at flcells 2 (fun _ => rfl) l k i x hx hi
  obtain ⟨g, rfl, c0⟩ := hc (k * 2) (.string x.1) (by have := hat 0 (by omega); simpa [flcells] using this)
  obtain ⟨_, e1, c1⟩ := hc (k * 2 + 1) (.string x.2) (by have := hat 1 (by omega); simpa [flcells] using this)
  cases e1
  exact ⟨g, rfl, cell_lt c0, c0, c1⟩
set_option maxHeartbeats 1000000 in
set_option maxRecDepth 100000 in
theorem sameF_any (v v' : Value) (l : List (ByteArray × ByteArray)) (w : World) (hn : l.length ≤ 1099511627776) (h : Row w 74 2 v l.length (l.flatMap flcells)) (h' : Row w 74 2 v' l.length (l.flatMap flcells)) :
    Calls Tryz.prog 29 #[v, v'] w fun e w' => e = .returned (.bool true) ∧ ∃ q, w' = w.drewN q := by
  obtain ⟨a, c, rfl, hx⟩ := fl_cells h
  obtain ⟨a', c', rfl, hy⟩ := fl_cells h'
  have HX := Lib.hid hx
  have HY := Lib.hid hy
  clear hx hy h h'
  go_enter Tryz.func29, Tryz.ntmps29
  go_wp2
  go_loopw [5] (fun i wr => ∃ k q : Nat, k ≤ l.length ∧ i = .int .i64 k ∧ wr = w.drewN q)
    (fun i _ => l.length - (intOf i).toNat)
  case atStart => exact ⟨0, 0, Nat.zero_le _, rfl, rfl⟩
  case round =>
    obtain ⟨k, q, hk, rfl, rfl⟩ := hrel
    by_cases hlt : k < l.length
    · obtain ⟨x, hx⟩ : ∃ x, l[k]? = some x := ⟨_, List.getElem?_eq_getElem hlt⟩
      obtain ⟨g, rfl, _, d1, d2⟩ := HX.out k x hx
      obtain ⟨g', rfl, _, d3, d4⟩ := HY.out k x hx
      have hk1 : (k : Int) < (l.length : Int) := by omega
      clear hx
      obtain ⟨s1, s2⟩ := x
      simp only at d1 d2 d3 d4
      go_wp2_with fail
      go_quiet (fail)
      go_wp2
      go_roundw
      case rel => exact ⟨k + 1, _, by omega, by go_num, rfl⟩
      case measure => simp [intOf]; omega
    · go_wp2
      go_ret
      exact ⟨rfl, q, rfl⟩
end Go.Proofs.YtpkhghjmelgpeaaGreat.Wk
set_option linter.unusedVariables false
namespace Go.Proofs.YtpkhghjmelgpeaaGreat.Wk
open Go.ChangeShapes Go.WideShapes Go.ChangeAt Go.RowKit M Go.Maps Go.Proofs

theorem Row.bel {w w' : World} {e : TypeId} {z : Nat} {v : Value} {n : Nat} {xs : List Value} (h : Row w e z v n xs) (hb : Below w.heap.size w w') : Row w' e z v n xs := h.kept fun k hk => hb.block k (h.lt k hk)
theorem Rep.bel {own : Own} {w w' : World} {p : Nat} {s : St} {g : Gh} (h : Rep own w p s g) (hb : Below w.heap.size w w') : Rep own w' p s g := h.below hb (Nat.le_refl _)
theorem drew_bel (w : World) (q : Nat) : Below w.heap.size w (w.drewN q) := ⟨rfl, rfl, rfl, Nat.le_refl _, fun _ _ => rfl⟩
/-- A world of the law's own, at some state. -/
def CallsAt (w : World) (p : Nat) (S : St) (wr : World) : Prop := ∃ own g, Rep own wr p S g ∧ (∀ k, k < w.heap.size → own k = none) ∧ Below w.heap.size w wr
def LfRel (w : World) (p : Nat) (S0 : St) (l : List Ac) (i : Value) (wr : World) : Prop := ∃ k : Nat, k ≤ l.length ∧ k ≤ 64 ∧ i = .int .i64 k ∧ CallsAt w p (calls S0 (l.take k)) wr
theorem act_cells {w : World} {a : Option Addr} {l : List Ac} (h : ∀ (k : Nat) x, l[k]? = some x → ∃ b off, a = some ⟨b, off, none⟩ ∧ b < w.heap.size ∧ ∀ j u, (accells x)[j]? = some u → w.cell? ⟨b, off + (k * 5 + j), none⟩ = some u) {k : Nat} {x : Ac} (hx : l[k]? = some x) :
    ∃ b off, a = some ⟨b, off, none⟩ ∧ b < w.heap.size ∧ w.cell? ⟨b, off + k * 5, none⟩ = some (.int .i64 x.kind) ∧ w.cell? ⟨b, off + k * 5 + 1, none⟩ = some (.string x.name) ∧ w.cell? ⟨b, off + k * 5 + 2, none⟩ = some (.string x.text) ∧ w.cell? ⟨b, off + k * 5 + 3, none⟩ = some (.int .i64 x.h) ∧ w.cell? ⟨b, off + k * 5 + 4, none⟩ = some (.int .i64 x.n) := by
  obtain ⟨b, off, e, hb, hc⟩ := h k x hx
  exact ⟨b, off, e, hb, hc 0 _ rfl, hc 1 _ rfl, hc 2 _ rfl, hc 3 _ rfl, hc 4 _ rfl⟩

set_option maxHeartbeats 16000000 in
set_option maxRecDepth 100000 in
theorem WorldLeft_in (C : List Ch) (F : List (ByteArray × ByteArray)) (L : List Ac) (cv fv lv : Value) (which : Nat) (w : World) (hC : Rd w 3 cv C.length (C.flatMap chcells)) (hCl : C.length ≤ maxLen) (hCt : ∀ c ∈ C, c.text.size ≤ 281474976710656) (hF : FlS w fv F) (hFl : F.length ≤ maxLen) (hFs : ∀ x ∈ F, x.1.size ≤ maxLen ∧ x.2.size ≤ maxLen) (hL : ActS w lv L) (hLl : L.length ≤ maxLen) (hLo : ∀ x ∈ L, okAc x) (hw : which < 18446744073709551616) :
    Calls Tryz.prog 5 #[cv, fv, lv, .int .u64 which] w fun e w' => e = .returned (.bool true) ∧ Below w.heap.size w w' := by
  have HWK := Lib.hid (works_any w)
  obtain ⟨ca, cc, rfl, hc1, hc2⟩ := hC
  obtain ⟨fa, fc, rfl, hcell⟩ := hF
  obtain ⟨la, lc, rfl, hlc⟩ := hL
  have HC1 := Lib.hid hc1
  have HC2 := Lib.hid hc2
  have HCL := Lib.hid hCl
  have HCT := Lib.hid hCt
  have HFC := Lib.hid hcell
  have HFS := Lib.hid hFs
  have HFL := Lib.hid hFl
  have HLC := Lib.hid hlc
  have HLL := Lib.hid hLl
  have HLO := Lib.hid hLo
  have Hw := Lib.hid hw
  clear hc1 hc2 hCl hCt hcell hFs hFl hlc hLl hLo hw
  go_enter Tryz.func5, Tryz.ntmps5
  go_wp2_with fail
  refine HWK.out.mono ?_
  rintro e w0 ⟨rfl, hb0⟩
  have hFS0 : FlS w0 (.slice fa F.length fc) F := ⟨fa, fc, rfl, fun k x hx => by
    obtain ⟨b, off, rfl, c0, c1⟩ := HFC.out k x hx
    exact ⟨b, off, rfl, (hb0.cell (p := ⟨b, off + k * 2, none⟩) (cell_lt c0)).trans c0, (hb0.cell (p := ⟨b, off + k * 2 + 1, none⟩) (cell_lt c1)).trans c1⟩⟩
  have hCS0 : Rd w0 3 (.slice ca C.length cc) C.length (C.flatMap chcells) := ⟨ca, cc, rfl, HC1.out, fun j u hu => by
    obtain ⟨ad, e, c0⟩ := HC2.out j u hu
    exact ⟨ad, e, (hb0.cell (cell_lt c0)).trans c0⟩⟩
  have HN := Lib.hid (new_any _ _ C F w0 hCS0 (by have := HCL.out; unfold maxLen at this; omega) hFS0 (by have := HFL.out; unfold maxLen at this; omega) (fun x hx => (HFS.out x hx).1))
  have HB0 := Lib.hid hb0
  clear hb0 hFS0 hCS0 HWK
  go_wp2_with fail
  refine HN.out.mono ?_
  cases hm : mkNew C F with
  | none =>
    rintro e w1 ⟨rfl, hb1⟩
    have HB1 := Lib.hid (HB0.out.trans (hb1.mono HB0.out.size))
    clear hb1 hm HB0 HN
    go_wp2
    go_ret
    exact ⟨rfl, HB1.out⟩
  | some S0 =>
    rintro e w1 ⟨p, own1, g1, rfl, hR1, hO1, hB1⟩
    obtain ⟨m1, m2, m3, m4, m5, m6, m7⟩ := mkNew_all hm
    have hA1 : CallsAt w p S0 w1 := ⟨own1, g1, hR1, fun k hk => hO1 k (Nat.lt_of_lt_of_le hk HB0.out.size), HB0.out.trans (hB1.mono HB0.out.size)⟩
    have HA1 := Lib.hid hA1
    have M1 := Lib.hid m1
    have M4 := Lib.hid m4
    have M5 := Lib.hid m5
    have M6 := Lib.hid m6
    clear hR1 hO1 hB1 hm m1 m2 m3 m4 m5 m6 m7 hA1 HN HB0
    go_wp2
    go_loopw [12] (fun i wr => LfRel w p S0 L i wr) (fun i _ => L.length - (intOf i).toNat)
    case atStart => exact ⟨0, Nat.zero_le _, by decide, rfl, HA1.out⟩
    case round =>
      obtain ⟨k, hk, hk64, rfl, hat⟩ := hrel
      clear HA1
      have HAT := Lib.hid hat
      clear hat
      have hcs : (∃ x, L[k]? = some x ∧ decide ((k : Int) < 64) = true) ∨ ((L.length = k) ∨ (k < L.length ∧ decide ((k : Int) < 64) = false)) := by
        by_cases c1 : k < L.length
        · by_cases c2 : k < 64
          · exact .inl ⟨L[k], List.getElem?_eq_getElem c1, decide_eq_true (by omega)⟩
          · exact .inr (.inr ⟨c1, decide_eq_false (by omega)⟩)
        · exact .inr (.inl (by omega))
      rcases hcs with ⟨x, hx, b1⟩ | hex
      · have hkL : k < L.length := (List.getElem?_eq_some_iff.1 hx).1
        have hk63 : k < 64 := by have := of_decide_eq_true b1; omega
        obtain ⟨lb, loff, rfl, hlb, y0, y1, y2, y3, y4⟩ := act_cells HLC.out hx
        obtain ⟨own2, g2, hR2, hO2, hB2⟩ := HAT.out
        have u0 := (hB2.cell (p := ⟨lb, loff + k * 5, none⟩) hlb).trans y0
        have u1 := (hB2.cell (p := ⟨lb, loff + k * 5 + 1, none⟩) hlb).trans y1
        have u2 := (hB2.cell (p := ⟨lb, loff + k * 5 + 2, none⟩) hlb).trans y2
        have u3 := (hB2.cell (p := ⟨lb, loff + k * 5 + 3, none⟩) hlb).trans y3
        have u4 := (hB2.cell (p := ⟨lb, loff + k * 5 + 4, none⟩) hlb).trans y4
        obtain ⟨k1, k2, k3, k4⟩ := calls_within (L.take k) S0
        have hlt : (L.take k).length ≤ 64 := by rw [List.length_take]; omega
        rw [M4.out] at k1
        rw [M6.out] at k2
        rw [M5.out] at k3
        rw [M1.out] at k4
        simp only [List.length_nil] at k1 k3
        have HCA := Lib.hid (call_any own2 _ p _ g2 x (HLO.out x (List.mem_of_getElem? hx)) hR2 (by omega) (by omega) (by omega) (fun c hc => HCT.out c (k4 c hc)))
        have hst : calls S0 (L.take (k + 1)) = (call (calls S0 (L.take k)) x).1 := by
          rw [List.take_add_one, hx, Option.toList_some, calls_snoc]
        have HST := Lib.hid hst
        have HO2 := Lib.hid hO2
        have HB2 := Lib.hid hB2
        clear hR2 hO2 hB2 y0 y1 y2 y3 y4 k1 k2 k3 k4 hst hx hlt
        go_wp2_with fail
        refine HCA.out.mono ?_
        rintro e w2 ⟨own3, g3, rfl, hR3, hF3⟩
        have hA3 : CallsAt w p (calls S0 (L.take (k + 1))) w2 := ⟨own3, g3, by rw [HST.out]; exact hR3, fun q hq => (hF3.old q (Nat.lt_of_lt_of_le hq HB2.out.size)).trans (HO2.out q hq), HB2.out.trans (hF3.below HB2.out.size HO2.out)⟩
        have HA3 := Lib.hid hA3
        clear hR3 hF3 hA3 u0 u1 u2 u3 u4 HCA
        go_wp2
        go_roundw
        case rel => exact ⟨k + 1, by omega, by omega, by go_num, HA3.out⟩
        case measure => simp [intOf]; omega
      · obtain ⟨own2, g2, hR2, hO2, hB2⟩ := HAT.out
        obtain ⟨k1, k2, k3, k4⟩ := calls_within (L.take k) S0
        have hlt : (L.take k).length ≤ 64 := by rw [List.length_take]; omega
        rw [M6.out] at k2
        obtain ⟨S, hS⟩ : ∃ S, S = calls S0 (L.take k) := ⟨_, rfl⟩
        rw [← hS] at hR2 k2
        have hS64 : S.writes ≤ 64 := by omega
        have HR := Lib.hid hR2
        have HB := Lib.hid hB2
        have HS64 := Lib.hid hS64
        clear hR2 hO2 hB2 k1 k2 k3 k4 hS hlt hS64 HAT HLC HCT HFC HFS HFL HLL HLO HC1 HC2 HCL
        rcases hex with rfl | ⟨h1, b1⟩
        all_goals
          go_wp2_with fail
          refine (files_any own2 _ p S g2 HR.out).mono ?_
          rintro e w1a ⟨vn, rfl, hrn, hb1, _⟩
          have hnl : (filesOf S).length ≤ 64 := by
            have : (filesOf S).length = named S.fs := by unfold filesOf sortedNames names named; simp
            rw [this]; exact HR.out.wf.full.1
          have HR1 := Lib.hid (HR.out.bel hb1)
          have HBb := Lib.hid (HB.out.trans (hb1.mono HB.out.size))
          have HNOW := Lib.hid hrn
          obtain ⟨na, nc, rfl, hnc⟩ := fl_cells hrn
          clear hrn hb1 hnc
          go_wp2_with fail
          refine (left_any own2 w1a p S g2 HR1.out (by have := HS64.out; omega) 18446744073709551615 (by omega) none 0 [] (Row.nil w1a 63 3).rd (Nat.le_refl _)).mono ?_
          rintro e w2a ⟨pa, owna, ga, ia, rfl, hia, hRa, _, hb2⟩
          have hfa := left_all HR1.out.wf HS64.out hia hRa.wf
          have HR2 := Lib.hid (HR1.out.bel hb2)
          have HBc := Lib.hid (HBb.out.trans (hb2.mono HBb.out.size))
          have HNOW2 := Lib.hid (HNOW.out.bel hb2)
          have HFA := Lib.hid hfa
          have HRA := Lib.hid hRa
          clear hia hRa hb2 hfa
          go_wp2_with fail
          refine (left_any own2 w2a p S g2 HR2.out (by have := HS64.out; omega) which Hw.out none 0 [] (Row.nil w2a 63 3).rd (Nat.le_refl _)).mono ?_
          rintro e w3a ⟨pb, ownb, gb, ib, rfl, hib, hRb, _, hb3⟩
          obtain ⟨T, hT⟩ : ∃ T, T = leftSt S which ([].take 65536) ib := ⟨_, rfl⟩
          have hfst : (filesOf T).map (·.1) = (filesOf S).map (·.1) := by rw [hT]; exact left_fst HR2.out.wf hib hRb.wf
          have hTu : ∀ f ∈ T.fs, f.uns = [] := by rw [hT]; exact left_uns hib
          have hTt : T.told = [] := by rw [hT]; rfl
          have hTw : T.writes = 0 := by rw [hT]; rfl
          rw [← hT] at hRb
          have hyl : (filesOf T).length = (filesOf S).length := by have := congrArg List.length hfst; simpa using this
          have HRA3 := Lib.hid (HRA.out.bel hb3)
          have HRB := Lib.hid hRb
          have HBd := Lib.hid (HBc.out.trans (hb3.mono HBc.out.size))
          have HNOW3 := Lib.hid (HNOW2.out.bel hb3)
          have HFST := Lib.hid hfst
          have HTU := Lib.hid hTu
          have HTT := Lib.hid hTt
          have HTW := Lib.hid hTw
          have HYL := Lib.hid hyl
          clear hib hRb hb3 hT hfst hTu hTt hTw hyl HRA HR1 HR2 HR HNOW HNOW2
          go_wp2_with fail
          refine (files_any owna w3a pa _ ga HRA3.out).mono ?_
          rw [HFA.out]
          rintro e w4a ⟨vx, rfl, hrx, hb4, _⟩
          have HX := Lib.hid hrx
          have HRB4 := Lib.hid (HRB.out.bel hb4)
          have HBe := Lib.hid (HBd.out.trans (hb4.mono HBd.out.size))
          have HNOW4 := Lib.hid (HNOW3.out.bel hb4)
          obtain ⟨xa, xc, rfl, hxc⟩ := fl_cells hrx
          clear hrx hb4 hxc HRA3 HNOW3 HRB
          go_wp2_with fail
          refine (files_any ownb w4a pb T gb HRB4.out).mono ?_
          rintro e w5a ⟨vy, rfl, hry, hb5, _⟩
          have HY := Lib.hid hry
          have HX5 := Lib.hid (HX.out.bel hb5)
          have HRB5 := Lib.hid (HRB4.out.bel hb5)
          have HBf := Lib.hid (HBe.out.trans (hb5.mono HBe.out.size))
          have HNOW5 := Lib.hid (HNOW4.out.bel hb5)
          obtain ⟨ya, yc, rfl, hyc⟩ := fl_cells hry
          clear hry hb5 hyc HRB4 HNOW4 HX
          go_wp2_with fail
          refine (sameF_any _ _ (filesOf S) w5a (by omega) HX5.out HNOW5.out).mono ?_
          rintro e w6a ⟨rfl, q6, rfl⟩
          rw [HYL.out]
          go_wp2
          go_loopw [19] (fun i wr => ∃ k q : Nat, k ≤ (filesOf S).length ∧ i = .int .i64 k ∧ wr = w5a.drewN q) (fun i _ => (filesOf S).length - (intOf i).toNat)
          case atStart => exact ⟨0, q6, Nat.zero_le _, rfl, rfl⟩
          case round =>
            obtain ⟨j, q, hj, rfl, rfl⟩ := hrel
            by_cases hjl : j < (filesOf S).length
            · obtain ⟨x, hx⟩ : ∃ x, (filesOf S)[j]? = some x := ⟨_, List.getElem?_eq_getElem hjl⟩
              obtain ⟨y, hy⟩ : ∃ y, (filesOf T)[j]? = some y := ⟨_, List.getElem?_eq_getElem (by rw [HYL.out]; exact hjl)⟩
              have hxy : y.1 = x.1 := by
                have h1 : ((filesOf T).map (·.1))[j]? = some y.1 := by rw [List.getElem?_map, hy]; rfl
                rw [HFST.out, List.getElem?_map, hx] at h1
                simpa using h1.symm
              obtain ⟨_, _, ey, hyc⟩ := fl_cells HY.out
              rw [HYL.out] at ey
              cases ey
              obtain ⟨gy, rfl, _, y0, _⟩ := hyc j y hy
              obtain ⟨_, _, en, hnc⟩ := fl_cells HNOW5.out
              cases en
              obtain ⟨gn, rfl, _, n0, _⟩ := hnc j x hx
              rw [hxy] at y0
              obtain ⟨x1, x2⟩ := x
              simp only at y0 n0
              clear hyc hnc hx hy hxy
              go_wp2_with fail
              go_quiet (fail)
              go_wp2
              go_roundw
              case rel => exact ⟨j + 1, _, by omega, by go_num, rfl⟩
              case measure => simp [intOf]; omega
            · obtain rfl : j = (filesOf S).length := by omega
              have HRB6 := Lib.hid (HRB5.out.bel (drew_bel w5a q))
              have HY6 := Lib.hid (HY.out.bel (drew_bel w5a q))
              have HBg := Lib.hid (HBf.out.trans ((drew_bel w5a q).mono HBf.out.size))
              go_wp2_with fail
              refine (left_any ownb _ pb T gb HRB6.out (by have := HTW.out; omega) 0 (by decide) none 0 [] (Row.nil _ 63 3).rd (Nat.le_refl _)).mono ?_
              rintro e w7a ⟨pc, ownc, gc, ic, rfl, hic, hRc, _, hb7⟩
              have hag := left_again HRB6.out.wf HTU.out hic hRc.wf
              have HRC := Lib.hid hRc
              have HAG := Lib.hid hag
              have HRB7 := Lib.hid (HRB6.out.bel hb7)
              have HY7 := Lib.hid (HY6.out.bel hb7)
              have HBh := Lib.hid (HBg.out.trans (hb7.mono HBg.out.size))
              clear hic hRc hb7 hag
              go_wp2_with fail
              refine (files_any ownc w7a pc _ gc HRC.out).mono ?_
              rw [HAG.out]
              rintro e w8a ⟨vz, rfl, hrz, hb8, _⟩
              have HZ := Lib.hid hrz
              have HRB8 := Lib.hid (HRB7.out.bel hb8)
              have HY8 := Lib.hid (HY7.out.bel hb8)
              have HBi := Lib.hid (HBh.out.trans (hb8.mono HBh.out.size))
              have HSM := Lib.hid (sameF_any _ _ (filesOf T) w8a (by rw [HYL.out]; omega) HY8.out hrz)
              rw [HYL.out] at HSM
              obtain ⟨za, zc, rfl, hzc⟩ := fl_cells hrz
              rw [HYL.out]
              clear hrz hb8 hzc
              go_wp2_with fail
              rw [HYL.out] at HSM
              refine HSM.out.mono ?_
              rintro e w9a ⟨rfl, q9, rfl⟩
              have HRB9 := Lib.hid (HRB8.out.bel (drew_bel w8a q9))
              have HBj := Lib.hid (HBi.out.trans ((drew_bel w8a q9).mono HBi.out.size))
              go_wp2_with fail
              refine (trace_any ownb _ pb T gb HRB9.out (by rw [HTT.out]; decide)).mono ?_
              rintro e w10a ⟨vt, rfl, hrt, hb10, _⟩
              obtain ⟨ta, tc, rfl, _⟩ := hrt.cells
              rw [HTT.out]
              have HBk := Lib.hid (HBj.out.trans (hb10.mono HBj.out.size))
              clear hrt hb10
              go_wp2
              go_ret
              exact ⟨rfl, HBk.out⟩
end Go.Proofs.YtpkhghjmelgpeaaGreat.Wk
set_option linter.unusedVariables false
namespace Go.Proofs.YtpkhghjmelgpeaaGreat.Wk
open M

theorem twin_perform {s v : St} (h : CrTwin s v) {act : St → Ch → Dd → St × Dd} (hb : Blind act) (hm : Mild act) (d : Dd) :
    (v.ch ≠ [] ∧ CrTwin (perform s d act).1 (perform v d act).1 ∧ (perform s d act).2 = (perform v d act).2) ∨ (v.ch = [] ∧ perform s d act = ({ s with ch := [], dead := true }, deadD)) := by
  obtain ⟨rfl, h2, h3⟩ := h
  cases hc : v.ch with
  | nil =>
    refine .inr ⟨rfl, ?_⟩
    rw [perform_crash (s := { v with ch := [] ++ [crash] }) (by exact h2) rfl]
    rfl
  | cons c r =>
    refine .inl ⟨by simp, ?_⟩
    have hk : c.kind ≠ 5 := h3 c (by rw [hc]; simp)
    have hr : ∀ x ∈ r, x.kind ≠ 5 := fun x hx => h3 x (by rw [hc]; simp [hx])
    obtain ⟨e, he⟩ : ∃ e, (if d.kind ≤ 8 then chosen c 4 else 0) = e := ⟨_, rfl⟩
    have q1 : (({ v with ch := c :: r ++ [crash] } : St).ch.headD noCh) = c := rfl
    have q2 : (v.ch.headD noCh) = c := by rw [hc]; rfl
    have q3 : (({ v with ch := c :: r ++ [crash] } : St).ch.tail) = r ++ [crash] := rfl
    have q4 : v.ch.tail = r := by rw [hc]; rfl
    by_cases h0 : e = 0
    · subst h0
      rw [perform_act (s := { v with ch := c :: r ++ [crash] }) (by exact h2) (by rw [q1]; exact hk) (by rw [q1]; exact he), perform_act (s := v) h2 (by rw [q2]; exact hk) (by rw [q2]; exact he), q1, q2, q3, q4]
      obtain ⟨b1, b2⟩ := hb { v with ch := r } c d (r ++ [crash])
      obtain ⟨_, _, _, m4⟩ := hm { v with ch := r } c d
      change act { v with ch := r ++ [crash] } c d = _ at b1
      rw [b1]
      refine ⟨⟨?_, b2.trans h2, fun x hx => ?_⟩, rfl⟩
      · simp only
        rw [m4]
      · simp only at hx
        rw [m4] at hx
        exact hr x hx
    · rw [perform_err (s := { v with ch := c :: r ++ [crash] }) (by exact h2) (by rw [q1]; exact hk) (by rw [q1]; exact he) h0, perform_err (s := v) h2 (by rw [q2]; exact hk) (by rw [q2]; exact he) h0, q3, q4]
      exact ⟨⟨rfl, h2, hr⟩, rfl⟩
theorem op_kinds {x : Ac} {r : Dd × (St → Ch → Dd → St × Dd)} (hq : opOf x = some r) : Blind r.2 ∧ Mild r.2 := by
  unfold opOf at hq
  by_cases h1 : x.kind = 1
  · rw [if_pos h1] at hq; cases hq; exact ⟨blind_open _ _, mild_open _ _⟩
  rw [if_neg h1] at hq
  by_cases h2 : x.kind = 2
  · rw [if_pos h2] at hq; cases hq; exact ⟨blind_read _, mild_read _⟩
  rw [if_neg h2] at hq
  by_cases h3 : x.kind = 3
  · rw [if_pos h3] at hq; cases hq; exact ⟨blind_write _, mild_write _⟩
  rw [if_neg h3] at hq
  by_cases h4 : x.kind = 4
  · rw [if_pos h4] at hq; cases hq; exact ⟨blind_seek _, mild_seek _⟩
  rw [if_neg h4] at hq
  by_cases h5 : x.kind = 5
  · rw [if_pos h5] at hq; cases hq; exact ⟨blind_sync, mild_sync⟩
  rw [if_neg h5] at hq
  by_cases h6 : x.kind = 6
  · rw [if_pos h6] at hq; cases hq; exact ⟨blind_close _, mild_close _⟩
  rw [if_neg h6] at hq
  by_cases h7 : x.kind = 7
  · rw [if_pos h7] at hq; cases hq; exact ⟨blind_rename _ _, mild_rename _ _⟩
  rw [if_neg h7] at hq
  by_cases h8 : x.kind = 8
  · rw [if_pos h8] at hq; cases hq; exact ⟨blind_delete _, mild_delete _⟩
  rw [if_neg h8] at hq
  by_cases h9 : x.kind = 9
  · rw [if_pos h9] at hq; cases hq; exact ⟨blind_clock, mild_clock⟩
  rw [if_neg h9] at hq
  by_cases h10 : x.kind = 10
  · rw [if_pos h10] at hq; cases hq; exact ⟨blind_connect _, mild_connect _⟩
  rw [if_neg h10] at hq
  by_cases h11 : x.kind = 11
  · rw [if_pos h11] at hq; cases hq; exact ⟨blind_send _, mild_send _⟩
  rw [if_neg h11] at hq
  by_cases h12 : x.kind = 12
  · rw [if_pos h12] at hq; cases hq; exact ⟨blind_receive _ _, mild_receive _ _⟩
  rw [if_neg h12] at hq
  by_cases h13 : x.kind = 13
  · rw [if_pos h13] at hq; cases hq; exact ⟨blind_none, mild_none⟩
  rw [if_neg h13] at hq
  by_cases h14 : x.kind = 14
  · rw [if_pos h14] at hq; cases hq; exact ⟨blind_none, mild_none⟩
  rw [if_neg h14] at hq
  cases hq
theorem twin_call {s v : St} (h : CrTwin s v) (x : Ac) :
    (CrTwin (call s x).1 (call v x).1 ∧ (call s x).2 = (call v x).2 ∧ (call s x).1.dead = false) ∨ ((call s x).2 = 36 ∧ (call s x).1.dead = true ∧ (call s x).1.told = v.told) := by
  unfold call
  cases hq : opOf x with
  | none => exact .inl ⟨h, rfl, by rw [h.eq]; exact h.alive⟩
  | some r =>
    obtain ⟨hb, hm⟩ := op_kinds hq
    simp only
    rcases twin_perform h hb hm r.1 with ⟨_, h1, h2⟩ | ⟨_, h1⟩
    · exact .inl ⟨h1, by rw [h2], by rw [h1.eq]; exact h1.alive⟩
    · rw [h1]; exact .inr ⟨rfl, rfl, by rw [h.eq]⟩
theorem twin_told {s v : St} (h : CrTwin s v) : s.told = v.told := by rw [h.eq]
end Go.Proofs.YtpkhghjmelgpeaaGreat.Wk
set_option linter.unusedVariables false
namespace Go.Proofs.YtpkhghjmelgpeaaGreat.Wk
open Go.ChangeShapes Go.WideShapes Go.ChangeAt Go.RowKit M Go.Proofs

theorem dd_cells {w : World} {v : Value} {l : List Dd} (h : Row w 82 6 v l.length (l.flatMap ddcells)) : ∃ a c, v = .slice a l.length c ∧ ∀ k x, l[k]? = some x → ∃ g, a = some ⟨g, 0, none⟩ ∧ g < w.heap.size ∧ w.cell? ⟨g, k * 6, none⟩ = some (.int .u8 x.kind) ∧ w.cell? ⟨g, k * 6 + 1, none⟩ = some (.int .i64 x.handle) ∧ w.cell? ⟨g, k * 6 + 2, none⟩ = some (.string x.text) ∧ w.cell? ⟨g, k * 6 + 3, none⟩ = some (.string x.to) ∧ w.cell? ⟨g, k * 6 + 4, none⟩ = some (.int .i64 x.n) ∧ w.cell? ⟨g, k * 6 + 5, none⟩ = some (.int .i64 x.err) := by
  obtain ⟨a, c, rfl, _, hc⟩ := h.cells
  refine ⟨a, c, rfl, fun k x hx => ?_⟩
  have hat := fun i hi => flat_at ddcells 6 (fun _ => rfl) l k i x hx hi
  obtain ⟨g, rfl, c0⟩ := hc (k * 6) (.int .u8 x.kind) (by have := hat 0 (by omega); simpa [ddcells] using this)
  obtain ⟨_, e1, c1⟩ := hc (k * 6 + 1) (.int .i64 x.handle) (by have := hat 1 (by omega); simpa [ddcells] using this)
  cases e1
  obtain ⟨_, e1, c2⟩ := hc (k * 6 + 2) (.string x.text) (by have := hat 2 (by omega); simpa [ddcells] using this)
  cases e1
  obtain ⟨_, e1, c3⟩ := hc (k * 6 + 3) (.string x.to) (by have := hat 3 (by omega); simpa [ddcells] using this)
  cases e1
  obtain ⟨_, e1, c4⟩ := hc (k * 6 + 4) (.int .i64 x.n) (by have := hat 4 (by omega); simpa [ddcells] using this)
  cases e1
  obtain ⟨_, e1, c5⟩ := hc (k * 6 + 5) (.int .i64 x.err) (by have := hat 5 (by omega); simpa [ddcells] using this)
  cases e1
  exact ⟨g, rfl, cell_lt c0, c0, c1, c2, c3, c4, c5⟩
set_option maxHeartbeats 2000000 in
set_option maxRecDepth 100000 in
theorem sameD_any (v v' : Value) (l : List Dd) (w : World) (hn : l.length ≤ 1099511627776) (h : Row w 82 6 v l.length (l.flatMap ddcells)) (h' : Row w 82 6 v' l.length (l.flatMap ddcells)) :
    Calls Tryz.prog 28 #[v, v'] w fun e w' => e = .returned (.bool true) ∧ ∃ q, w' = w.drewN q := by
  obtain ⟨a, c, rfl, hx⟩ := dd_cells h
  obtain ⟨a', c', rfl, hy⟩ := dd_cells h'
  have HX := Lib.hid hx
  have HY := Lib.hid hy
  clear hx hy h h'
  go_enter Tryz.func28, Tryz.ntmps28
  go_wp2
  go_loopw [5] (fun i wr => ∃ k q : Nat, k ≤ l.length ∧ i = .int .i64 k ∧ wr = w.drewN q)
    (fun i _ => l.length - (intOf i).toNat)
  case atStart => exact ⟨0, 0, Nat.zero_le _, rfl, rfl⟩
  case round =>
    obtain ⟨k, q, hk, rfl, rfl⟩ := hrel
    by_cases hlt : k < l.length
    · obtain ⟨x, hx⟩ : ∃ x, l[k]? = some x := ⟨_, List.getElem?_eq_getElem hlt⟩
      obtain ⟨g, rfl, _, d0, d1, d2, d3, d4, d5⟩ := HX.out k x hx
      obtain ⟨g', rfl, _, e0, e1, e2, e3, e4, e5⟩ := HY.out k x hx
      have hk1 : (k : Int) < (l.length : Int) := by omega
      clear hx
      obtain ⟨s0, s1, s2, s3, s4, s5⟩ := x
      simp only at d0 d1 d2 d3 d4 d5 e0 e1 e2 e3 e4 e5
      go_wp2_with fail
      go_quiet (fail)
      go_wp2
      go_roundw
      case rel => exact ⟨k + 1, _, by omega, by go_num, rfl⟩
      case measure => simp [intOf]; omega
    · go_wp2
      go_ret
      exact ⟨rfl, q, rfl⟩

/-- Two worlds of the law's own, which share nothing. -/
def Two (w : World) (p q : Nat) (s v : St) (wr : World) : Prop :=
  ∃ own g own' g', Rep own wr p s g ∧ Rep own' wr q v g' ∧ (∀ k, own k ≠ none → own' k = none) ∧ (∀ k, k < w.heap.size → own k = none ∧ own' k = none) ∧ Below w.heap.size w wr
theorem Two.swap {w : World} {p q : Nat} {s v : St} {wr : World} (h : Two w p q s v wr) : Two w q p v s wr := by
  obtain ⟨o, g, o', g', h1, h2, h3, h4, h5⟩ := h
  exact ⟨o', g', o, g, h2, h1, fun k hk => by cases e : o k with | none => rfl | some l => exact absurd (h3 k (by rw [e]; simp)) hk, fun k hk => ⟨(h4 k hk).2, (h4 k hk).1⟩, h5⟩
theorem Two.step {w wr w' : World} {p q : Nat} {s s' v : St} {own own2 own' : Own} {g g2 g' : Gh} (h1 : Rep own wr p s g) (h2 : Rep own' wr q v g') (h3 : ∀ k, own k ≠ none → own' k = none) (h4 : ∀ k, k < w.heap.size → own k = none ∧ own' k = none) (h5 : Below w.heap.size w wr)
    (r1 : Rep own2 w' p s' g2) (r2 : Fr own wr own2 w' noE) : Two w p q s' v w' := by
  have hk : ∀ k l, own' k = some l → w'.heap[k]? = wr.heap[k]? := fun k l e => r2.kept k (h2.owns k (by rw [e]; simp)) (by cases e2 : own k with | none => rfl | some l2 => have := h3 k (by rw [e2]; simp); rw [this] at e; cases e) (fun e => e)
  refine ⟨own2, g2, own', g', r1, h2.kept (fun k hk => Nat.lt_of_lt_of_le (h2.owns k hk) r2.size) (fun _ _ e => e) (fun k l e _ => hk k l e), fun k hk2 => ?_, fun k hk2 => ⟨(r2.old k (Nat.lt_of_lt_of_le hk2 h5.size)).trans (h4 k hk2).1, (h4 k hk2).2⟩, h5.trans (r2.below h5.size (fun k hk2 => (h4 k hk2).1))⟩
  by_cases hlt : k < wr.heap.size
  · exact h3 k (by rw [← r2.old k hlt]; exact hk2)
  · exact owns_none h2.owns (by omega)
theorem Two.bel {w wr w' : World} {p q : Nat} {s v : St} (h : Two w p q s v wr) (hb : Below wr.heap.size wr w') : Two w p q s v w' := by
  obtain ⟨o, g, o', g', h1, h2, h3, h4, h5⟩ := h
  exact ⟨o, g, o', g', h1.bel hb, h2.bel hb, h3, h4, h5.trans (hb.mono h5.size)⟩
theorem Two.below {w wr : World} {p q : Nat} {s v : St} (h : Two w p q s v wr) : Below w.heap.size w wr := by
  obtain ⟨o, g, o', g', h1, h2, h3, h4, h5⟩ := h
  exact h5
theorem call_two {w wr : World} {p q : Nat} {s v : St} (h : Two w p q s v wr) (x : Ac) (hx : okAc x) (ht : s.told.length ≤ 1099511627776) (hw : s.writes ≤ 1099511627776) (hhl : s.hs.length ≤ 1099511627776) (hts : ∀ c ∈ s.ch, c.text.size ≤ 281474976710656) :
    Calls Tryz.prog 22 #[.pointer (some ⟨p, 0, none⟩), .agg (accells x).toArray] wr fun e w' => e = .returned (.int .i64 (call s x).2) ∧ Two w p q (call s x).1 v w' := by
  obtain ⟨o, g, o', g', h1, h2, h3, h4, h5⟩ := h
  refine (call_any o wr p s g x hx h1 ht hw hhl hts).mono fun e w' ⟨o2, g2, e1, r1, r2⟩ => ⟨e1, Two.step h1 h2 h3 h4 h5 r1 r2⟩

/-- The list of choices, one more. -/
theorem append_choice (W : World) (v : Value) (l : List Ch) (hrow0 : Row W 63 3 v l.length (l.flatMap chcells)) (c : Ch) (ht : l.length ≤ 1099511627776) :
    ∃ v' w2, (Builtin.append_ #[22, 22] 22 #[v, .slice (some ⟨W.heap.size, 0, none⟩) 1 1]).run Tryz.prog (W.alloc (.cells #[.int .u8 c.kind, .int .i64 c.n, .string c.text] 63)) = .ok v' w2 ∧
      Row w2 63 3 v' (l ++ [c]).length ((l ++ [c]).flatMap chcells) ∧ W.grownBy w2 (blk v) ∧ (blk v' = blk v ∨ ∀ k, blk v' = some k → W.heap.size ≤ k) := by
  obtain ⟨i, hi, hz0, hz1, hz2⟩ := info_parts cinfoCh
  have hrow : Row (W.alloc (.cells #[.int .u8 c.kind, .int .i64 c.n, .string c.text] 63)) 63 3 v l.length (l.flatMap chcells) := hrow0.kept fun k hk => Below.heap_alloc W _ k (hrow0.lt k hk)
  have hsrc : Src Tryz.prog 3 22 (.slice (some ⟨W.heap.size, 0, none⟩) 1 1) 1 (chcells c) (W.alloc (.cells #[.int .u8 c.kind, .int .i64 c.n, .string c.text] 63)) := by
    refine Src.ofSlice (P := Tryz.prog) _ Tryz.underlying22 _ 1 1 (chcells c) rfl (fun j u hu => ?_) (by intro u hu; simp [chcells] at hu; rcases hu with rfl | rfl | rfl <;> rfl)
    rw [add_0, cell_blk (heap_alloc_new W _)]
    simpa [chcells] using hu
  obtain ⟨v', w2, hr, h2, hg, hb⟩ := hrow.append (P := Tryz.prog) 22 22 22 i _ 32 Tryz.underlying22 hi hz0 hz1 hz2 (by rfl) _ 1 (chcells c) hsrc (by omega) (by unfold maxLen; omega) (by omega)
  refine ⟨v', w2, hr, by simpa using h2, ⟨hg.os, hg.tape, hg.output, Nat.le_trans (by simp) hg.size, fun k hk hne => (hg.block k (by simp; omega) hne).trans (Below.heap_alloc W _ k hk)⟩, ?_⟩
  rcases hb with e | e
  · exact .inl e
  · exact .inr fun k hk => by rw [hk] at e; simp at e; omega
/-- All choices of one row behind no others. -/
theorem append_choices (W : World) (v : Value) (l : List Ch) (hrow : Row W 63 3 v l.length (l.flatMap chcells)) (ht : l.length ≤ 1099511627776) :
    ∃ v' w2, (Builtin.append_ #[22, 22] 22 #[.slice none 0 0, v]).run Tryz.prog W = .ok v' w2 ∧
      Row w2 63 3 v' l.length (l.flatMap chcells) ∧ Below W.heap.size W w2 ∧ (∀ k, blk v' = some k → W.heap.size ≤ k) := by
  obtain ⟨i, hi, hz0, hz1, hz2⟩ := info_parts cinfoCh
  obtain ⟨a, c, rfl, _, hc⟩ := hrow.cells
  have hsrc : Src Tryz.prog 3 22 (.slice a l.length c) l.length (l.flatMap chcells) W := by
    cases l with
    | nil =>
      cases a with
      | none => exact Src.ofNil (P := Tryz.prog) _ Tryz.underlying22 c
      | some ad => exact Src.ofSlice (P := Tryz.prog) _ Tryz.underlying22 ad 0 c [] rfl (fun j u hu => by simp at hu) (fun u hu => by cases hu)
    | cons x r =>
      obtain ⟨g, e, _⟩ := hc 0 (.int .u8 x.kind) rfl
      subst e
      refine Src.ofSlice (P := Tryz.prog) _ Tryz.underlying22 _ _ _ _ hrow.1 (fun j u hu => ?_) (chflat_one _)
      obtain ⟨g', e1, e2⟩ := hc j u hu
      cases e1
      rw [add_0]; exact e2
  by_cases h0 : l.length = 0
  · have hl : l = [] := List.eq_nil_of_length_eq_zero h0
    subst hl
    refine ⟨.slice none 0 0, W, append_nothing W 22 22 22 63 i Tryz.underlying22 hi none 0 0 (Nat.le_refl _) _ (by rw [hz1]; exact hsrc), Row.nil _ _ _, Below.refl _ _, by simp [blk]⟩
  · obtain ⟨v', w2, hr, h2, hg, hb⟩ := (Row.nil W 63 3).append (P := Tryz.prog) 22 22 22 i _ 32 Tryz.underlying22 hi hz0 hz1 hz2 (by rfl) _ l.length (l.flatMap chcells) hsrc (by omega) (by unfold maxLen; omega) (by omega)
    refine ⟨v', w2, hr, by simpa using h2, ⟨hg.os, hg.tape, hg.output, hg.size, fun k hk => hg.block k hk (by simp [blk])⟩, fun k hk => ?_⟩
    rcases hb with e | e
    · rw [hk] at e; simp [blk] at e
    · rw [hk] at e; simp at e; omega
end Go.Proofs.YtpkhghjmelgpeaaGreat.Wk
set_option linter.unusedVariables false
namespace Go.Proofs.YtpkhghjmelgpeaaGreat.Wk
open Go.ChangeShapes Go.WideShapes Go.ChangeAt Go.RowKit M Go.Proofs

theorem dead_two {w wr : World} {p q : Nat} {s v : St} (h : Two w p q s v wr) : Calls Tryz.prog 23 #[.pointer (some ⟨p, 0, none⟩)] wr fun e w' => e = .returned (.bool s.dead) ∧ wr = w' := by
  obtain ⟨o, g, o', g', h1, h2, h3, h4, h5⟩ := h
  exact dead_any o wr p s g h1
def TrE (w : World) (l : List Dd) (wr : World) (e : Ending) (w' : World) : Prop :=
  ∃ v', e = .returned v' ∧ Row w' 82 6 v' l.length (l.flatMap ddcells) ∧ Below wr.heap.size wr w' ∧ ∀ k, blk v' = some k → wr.heap.size ≤ k
theorem trace_two {w wr : World} {p q : Nat} {s v : St} (h : Two w p q s v wr) (ht : s.told.length ≤ 1099511627776) : Calls Tryz.prog 20 #[.pointer (some ⟨p, 0, none⟩)] wr (TrE w s.told wr) := by
  obtain ⟨o, g, o', g', h1, h2, h3, h4, h5⟩ := h
  exact (trace_any o wr p s g h1 ht).mono fun e w' ⟨v', e1, r1, r2, r3⟩ => ⟨v', e1, r1, r2, r3⟩
def FiE (w : World) (l : List (ByteArray × ByteArray)) (wr : World) (e : Ending) (w' : World) : Prop :=
  ∃ v', e = .returned v' ∧ Row w' 74 2 v' l.length (l.flatMap flcells) ∧ Below wr.heap.size wr w' ∧ l.length ≤ 64 ∧ ∀ k, blk v' = some k → wr.heap.size ≤ k
theorem files_len {s : St} (h : Wf s) : (filesOf s).length ≤ 64 := by
  have : (filesOf s).length = named s.fs := by unfold filesOf sortedNames names named; simp
  rw [this]; exact h.full.1
theorem files_two {w wr : World} {p q : Nat} {s v : St} (h : Two w p q s v wr) : Calls Tryz.prog 19 #[.pointer (some ⟨p, 0, none⟩)] wr (FiE w (filesOf s) wr) := by
  obtain ⟨o, g, o', g', h1, h2, h3, h4, h5⟩ := h
  exact (files_any o wr p s g h1).mono fun e w' ⟨v', e1, r1, r2, r3⟩ => ⟨v', e1, r1, r2, files_len h1.wf, r3⟩
/-- The same, and blocks of neither. -/
def TwoK (K : Nat → Prop) (w : World) (p q : Nat) (s v : St) (wr : World) : Prop :=
  ∃ own g own' g', Rep own wr p s g ∧ Rep own' wr q v g' ∧ (∀ k, own k ≠ none → own' k = none) ∧ (∀ k, k < w.heap.size → own k = none ∧ own' k = none) ∧ Below w.heap.size w wr ∧ ∀ k, K k → k < wr.heap.size ∧ own k = none ∧ own' k = none
theorem TwoK.two {K : Nat → Prop} {w wr : World} {p q : Nat} {s v : St} (h : TwoK K w p q s v wr) : Two w p q s v wr := by
  obtain ⟨o, g, o', g', h1, h2, h3, h4, h5, _⟩ := h
  exact ⟨o, g, o', g', h1, h2, h3, h4, h5⟩
theorem Two.k {w wr : World} {p q : Nat} {s v : St} (h : Two w p q s v wr) : TwoK (fun _ => False) w p q s v wr := by
  obtain ⟨o, g, o', g', h1, h2, h3, h4, h5⟩ := h
  exact ⟨o, g, o', g', h1, h2, h3, h4, h5, fun _ e => e.elim⟩
theorem TwoK.bel {K : Nat → Prop} {w wr w' : World} {p q : Nat} {s v : St} (h : TwoK K w p q s v wr) (hb : Below wr.heap.size wr w') (b : Option Nat) (h1 : ∀ k, b = some k → wr.heap.size ≤ k) (h2 : ∀ k, b = some k → k < w'.heap.size) : TwoK (fun k => K k ∨ b = some k) w p q s v w' := by
  obtain ⟨o, g, o', g', a1, a2, a3, a4, a5, a6⟩ := h
  refine ⟨o, g, o', g', a1.bel hb, a2.bel hb, a3, a4, a5.trans (hb.mono a5.size), fun k hk => ?_⟩
  rcases hk with hk | hk
  · exact ⟨Nat.lt_of_lt_of_le (a6 k hk).1 hb.size, (a6 k hk).2⟩
  · exact ⟨h2 k hk, owns_none a1.owns (h1 k hk), owns_none a2.owns (h1 k hk)⟩
theorem TwoK.step {K : Nat → Prop} {w wr w' : World} {p q : Nat} {s s' v : St} {own own2 own' : Own} {g g2 g' : Gh} (h1 : Rep own wr p s g) (h2 : Rep own' wr q v g') (h3 : ∀ k, own k ≠ none → own' k = none) (h4 : ∀ k, k < w.heap.size → own k = none ∧ own' k = none) (h5 : Below w.heap.size w wr) (h6 : ∀ k, K k → k < wr.heap.size ∧ own k = none ∧ own' k = none)
    (r1 : Rep own2 w' p s' g2) (r2 : Fr own wr own2 w' noE) : TwoK K w p q s' v w' ∧ ∀ k, K k → w'.heap[k]? = wr.heap[k]? := by
  have hk : ∀ k l, own' k = some l → w'.heap[k]? = wr.heap[k]? := fun k l e => r2.kept k (h2.owns k (by rw [e]; simp)) (by cases e2 : own k with | none => rfl | some l2 => have := h3 k (by rw [e2]; simp); rw [this] at e; cases e) (fun e => e)
  refine ⟨⟨own2, g2, own', g', r1, h2.kept (fun k hk => Nat.lt_of_lt_of_le (h2.owns k hk) r2.size) (fun _ _ e => e) (fun k l e _ => hk k l e), fun k hk2 => ?_, fun k hk2 => ⟨(r2.old k (Nat.lt_of_lt_of_le hk2 h5.size)).trans (h4 k hk2).1, (h4 k hk2).2⟩, h5.trans (r2.below h5.size (fun k hk2 => (h4 k hk2).1)), fun k hk2 => ?_⟩, fun k hk2 => r2.kept k (h6 k hk2).1 (h6 k hk2).2.1 (fun e => e)⟩
  · by_cases hlt : k < wr.heap.size
    · exact h3 k (by rw [← r2.old k hlt]; exact hk2)
    · exact owns_none h2.owns (by omega)
  · obtain ⟨b1, b2, b3⟩ := h6 k hk2
    exact ⟨Nat.lt_of_lt_of_le b1 r2.size, (r2.old k b1).trans b2, b3⟩
def DdE (K : Nat → Prop) (w wr : World) (p q : Nat) (s v : St) (e : Ending) (w' : World) : Prop := e = .returned (.int .i64 36) ∧ TwoK K w p q s v w' ∧ ∀ k, K k → w'.heap[k]? = wr.heap[k]?
theorem show_dead {K : Nat → Prop} {w wr : World} {p q : Nat} {s v : St} (h : TwoK K w p q s v wr) (hd : s.dead = true) (ht : s.told.length ≤ 1099511627776) (t : ByteArray) :
    Calls Tryz.prog 24 #[.pointer (some ⟨p, 0, none⟩), .string t] wr (DdE K w wr p q s v) := by
  obtain ⟨o, g, o', g', h1, h2, h3, h4, h5, h6⟩ := h
  refine (show_any o wr p s g t h1 ht).mono fun e w' hq => ?_
  obtain ⟨o2, g2, e1, r1, r2⟩ := Ops.got hq (perform_dead hd) (.int .i64 36) rfl
  exact ⟨e1, TwoK.step h1 h2 h3 h4 h5 h6 r1 r2⟩
theorem close_dead {K : Nat → Prop} {w wr : World} {p q : Nat} {s v : St} (h : TwoK K w p q s v wr) (hd : s.dead = true) (ht : s.told.length ≤ 1099511627776) (n : Int) (hn : (Lit.int .i64 n).wf = true) :
    Calls Tryz.prog 25 #[.pointer (some ⟨p, 0, none⟩), .int .i64 n] wr (DdE K w wr p q s v) := by
  obtain ⟨o, g, o', g', h1, h2, h3, h4, h5, h6⟩ := h
  refine (closes_any o wr p s g n h1 ht hn).mono fun e w' hq => ?_
  obtain ⟨o2, g2, e1, r1, r2⟩ := Ops.got hq (perform_dead hd) (.int .i64 36) rfl
  exact ⟨e1, TwoK.step h1 h2 h3 h4 h5 h6 r1 r2⟩
theorem FlS.bel {w w' : World} {v : Value} {F : List (ByteArray × ByteArray)} (h : FlS w v F) (hb : Below w.heap.size w w') : FlS w' v F := by
  obtain ⟨fa, fc, rfl, hc⟩ := h
  refine ⟨fa, fc, rfl, fun k x hx => ?_⟩
  obtain ⟨b, off, rfl, c0, c1⟩ := hc k x hx
  exact ⟨b, off, rfl, (hb.cell (p := ⟨b, off + k * 2, none⟩) (cell_lt c0)).trans c0, (hb.cell (p := ⟨b, off + k * 2 + 1, none⟩) (cell_lt c1)).trans c1⟩
theorem size_dead {w wr : World} {p q : Nat} {s v : St} (h : Two w p q s v wr) (hd : s.dead = true) (n : Int) (hn : (Lit.int .i64 n).wf = true) :
    Calls Tryz.prog 26 #[.pointer (some ⟨p, 0, none⟩), .int .i64 n] wr fun e w' => e = .returned (.tuple #[.int .i64 0, .int .i64 36]) ∧ wr = w' := by
  obtain ⟨o, g, o', g', h1, h2, h3, h4, h5⟩ := h
  have := size_any o wr p s g n h1 hn
  rw [show M.sizeOf s n = (0, 36) by unfold M.sizeOf; rw [if_pos hd]] at this
  exact this
set_option maxHeartbeats 1000000 in
set_option maxRecDepth 100000 in
theorem signal_dead {w wr : World} {p q : Nat} {s v : St} (h : Two w p q s v wr) (hd : s.dead = true) :
    Calls Tryz.prog 27 #[.pointer (some ⟨p, 0, none⟩)] wr fun e w' => e = .returned (.tuple #[.int .i64 0, .bool false]) ∧ wr = w' := by
  obtain ⟨o, g, o', g', h1, h2, h3, h4, h5⟩ := h
  have c2 : wr.cell? ⟨p, 2, none⟩ = some (.bool true) := by rw [← hd]; exact cell_blk h1.wcell 2
  clear h1 h2 h3 h4 h5 hd
  go_enter Tryz.func27, Tryz.ntmps27
  go_wp2
  go_ret2
  exact ⟨rfl, rfl⟩
end Go.Proofs.YtpkhghjmelgpeaaGreat.Wk
set_option linter.unusedVariables false
namespace Go.Proofs.YtpkhghjmelgpeaaGreat.Wk
open Go.ChangeShapes Go.WideShapes Go.ChangeAt Go.RowKit M Go.Maps Go.Proofs

def calm (l : List Ch) : List Ch := l.filter fun c => decide (c.kind ≠ 5)
def CutRel (w : World) (C : List Ch) (n : Nat) (v i : Value) (wr : World) : Prop :=
  ∃ k : Nat, k ≤ n ∧ i = .int .i64 k ∧ Row wr 63 3 v (calm (C.take k)).length ((calm (C.take k)).flatMap chcells) ∧ (∀ q, blk v = some q → w.heap.size ≤ q) ∧ Below w.heap.size w wr
def DeadRel (w : World) (p q : Nat) (L : List Ac) (i : Value) (wr : World) : Prop :=
  ∃ (k : Nat) (s v : St), k ≤ L.length ∧ i = .int .i64 k ∧ CrTwin s v ∧ (s.told.length + s.ch.length ≤ 65536 ∧ s.writes + s.ch.length ≤ 65536 ∧ s.hs.length + s.ch.length ≤ 65536 ∧ ∀ c ∈ s.ch, c.text.size ≤ 281474976710656) ∧ Two w p q s v wr
theorem ch_cells {w : World} {a : Option Addr} {C : List Ch} (h : ∀ j u, (C.flatMap chcells)[j]? = some u → ∃ ad, a = some ad ∧ w.cell? (ad.add j) = some u) {k : Nat} {x : Ch} (hx : C[k]? = some x) :
    ∃ b off, a = some ⟨b, off, none⟩ ∧ b < w.heap.size ∧ w.cell? ⟨b, off + k * 3, none⟩ = some (.int .u8 x.kind) ∧ w.cell? ⟨b, off + k * 3 + 1, none⟩ = some (.int .i64 x.n) ∧ w.cell? ⟨b, off + k * 3 + 2, none⟩ = some (.string x.text) := by
  have hat := fun i hi => flat_at chcells 3 (fun _ => rfl) C k i x hx hi
  obtain ⟨ad, e, c0⟩ := h (k * 3) (.int .u8 x.kind) (by have := hat 0 (by omega); simpa [chcells] using this)
  obtain ⟨_, e1, c1⟩ := h (k * 3 + 1) (.int .i64 x.n) (by have := hat 1 (by omega); simpa [chcells] using this)
  rw [e] at e1; cases e1
  obtain ⟨_, e1, c2⟩ := h (k * 3 + 2) (.string x.text) (by have := hat 2 (by omega); simpa [chcells] using this)
  rw [e] at e1; cases e1
  have hx0 : (C.flatMap chcells)[0]? ≠ none := by
    intro hn
    have h1 := List.getElem?_eq_none_iff.1 hn
    have h2 := flat_length chcells 3 (fun _ => rfl) C
    have := (List.getElem?_eq_some_iff.1 hx).1
    omega
  obtain ⟨u0, hu0⟩ := Option.ne_none_iff_exists'.1 hx0
  obtain ⟨_, e1, c00⟩ := h 0 u0 hu0
  rw [e] at e1; cases e1
  rw [show ad.add 0 = ad from rfl] at c00
  obtain ⟨b, off, rfl⟩ := spot_none c00
  rw [addr_add] at c0 c1 c2
  exact ⟨b, off, e, cell_lt c00, c0, c1, c2⟩
theorem calm_step {C : List Ch} {k : Nat} {x : Ch} (hx : C[k]? = some x) : calm (C.take (k + 1)) = calm (C.take k) ++ (if x.kind = 5 then [] else [x]) := by
  unfold calm
  rw [List.take_add_one, hx, Option.toList_some, List.filter_append]
  congr 1
  by_cases h : x.kind = 5 <;> simp [h]
theorem newFs_ch (F : List (ByteArray × ByteArray)) (X : List Ch) : ∀ (s : St), newFs { s with ch := X } F = (newFs s F).map fun s' => { s' with ch := X } := by
  induction F with
  | nil => intro s; rfl
  | cons y r ih =>
    intro s
    simp only [newFs]
    have e : newF { s with ch := X } y = (newF s y).map fun s' => { s' with ch := X } := by
      unfold newF
      show (if isName y.1 = false ∨ (find s.fs y.1).isSome = true ∨ 4194304 < y.2.size then none else _) = _
      split <;> rfl
    rw [e]
    cases hq : newF s y with
    | none => rfl
    | some s1 => exact ih s1
theorem mkNew_twin {l : List Ch} (F : List (ByteArray × ByteArray)) (hl : l.length ≤ 65535) (hc : ∀ c ∈ l, c.kind ≠ 5) :
    (mkNew (l ++ [crash]) F = none ∧ mkNew l F = none) ∨ ∃ s v, mkNew (l ++ [crash]) F = some s ∧ mkNew l F = some v ∧ CrTwin s v := by
  unfold mkNew
  by_cases h : 64 < F.length
  · rw [if_pos (.inr h), if_pos (.inr h)]; exact .inl ⟨rfl, rfl⟩
  · rw [if_neg (by simp; omega), if_neg (by omega)]
    have e1 := newFs_ch F (l ++ [crash]) (start l)
    change newFs (start (l ++ [crash])) F = _ at e1
    rw [e1]
    cases hq : newFs (start l) F with
    | none => exact .inl ⟨rfl, rfl⟩
    | some v =>
      have hv : mkNew l F = some v := by unfold mkNew; rw [if_neg (by omega), hq]
      obtain ⟨m1, _, m3, _⟩ := mkNew_all hv
      exact .inr ⟨_, v, rfl, rfl, ⟨by rw [m1], m3, by rw [m1]; exact hc⟩⟩

theorem perform_ch {s : St} {act : St → Ch → Dd → St × Dd} (hd : s.dead = false) (hm : Mild act) (d : Dd) : (perform s d act).1.ch = s.ch.tail := by
  by_cases hc : (s.ch.headD noCh).kind = 5
  · rw [perform_crash hd hc]
  · obtain ⟨e, he⟩ : ∃ e, (if d.kind ≤ 8 then chosen (s.ch.headD noCh) 4 else 0) = e := ⟨_, rfl⟩
    by_cases h0 : e = 0
    · subst h0
      rw [perform_act hd hc he]
      exact (hm _ _ _).2.2.2
    · rw [perform_err hd hc he h0]
/-- A call takes a choice for what it adds: so a world never tells more than it was given. -/
theorem call_fuel {s : St} (hd : s.dead = false) (hc : s.ch ≠ []) (x : Ac) : (call s x).1.told.length + (call s x).1.ch.length ≤ s.told.length + s.ch.length ∧ (call s x).1.writes + (call s x).1.ch.length ≤ s.writes + s.ch.length ∧ (call s x).1.hs.length + (call s x).1.ch.length ≤ s.hs.length + s.ch.length := by
  obtain ⟨i1, i2, i3, _⟩ := call_within s x
  have hl : 0 < s.ch.length := List.length_pos_iff.2 hc
  have h : (call s x).1 = s ∨ (call s x).1.ch.length + 1 = s.ch.length := by
    unfold call
    cases hq : opOf x with
    | none => exact .inl rfl
    | some r =>
      refine .inr ?_
      simp only
      rw [perform_ch hd (op_kinds hq).2, List.length_tail]
      omega
  rcases h with h | h
  · rw [h]; exact ⟨Nat.le_refl _, Nat.le_refl _, Nat.le_refl _⟩
  · omega

set_option maxHeartbeats 16000000 in
set_option maxRecDepth 100000 in
theorem WorldDead_in (C : List Ch) (F : List (ByteArray × ByteArray)) (L : List Ac) (cv fv lv : Value) (a : Int) (w : World) (hC : Rd w 3 cv C.length (C.flatMap chcells)) (hCl : C.length ≤ 9223372036854775807) (hCt : ∀ c ∈ C, c.text.size ≤ 281474976710656) (hF : FlS w fv F) (hFl : F.length ≤ maxLen) (hFs : ∀ x ∈ F, x.1.size ≤ maxLen ∧ x.2.size ≤ maxLen) (hL : ActS w lv L) (hLl : L.length ≤ 9223372036854775807) (hLo : ∀ x ∈ L, okAc x) (ha : (Lit.int .i64 a).wf = true) :
    Calls Tryz.prog 4 #[cv, fv, lv, .int .i64 a] w fun e w' => e = .returned (.bool true) ∧ Below w.heap.size w w' := by
  have HWK := Lib.hid (works_any w)
  obtain ⟨ca, cc, rfl, hc1, hc2⟩ := hC
  obtain ⟨fa, fc, rfl, hcell⟩ := hF
  obtain ⟨la, lc, rfl, hlc⟩ := hL
  obtain ⟨a1, a2⟩ := bounds_i64 ha
  have HC1 := Lib.hid hc1
  have HC2 := Lib.hid hc2
  have HCL := Lib.hid hCl
  have HCT := Lib.hid hCt
  have HFC := Lib.hid hcell
  have HFS := Lib.hid hFs
  have HFL := Lib.hid hFl
  have HLC := Lib.hid hlc
  have HLL := Lib.hid hLl
  have HLO := Lib.hid hLo
  clear hc1 hc2 hCt hcell hFs hFl hlc hLo ha
  go_enter Tryz.func4, Tryz.ntmps4
  go_wp2_with fail
  refine HWK.out.mono ?_
  rintro e w0 ⟨rfl, hb0⟩
  have HB0 := Lib.hid hb0
  clear hb0 HWK
  by_cases hbig : 65535 < C.length
  · have b0 : decide ((65535 : Int) < (C.length : Int)) = true := decide_eq_true (by omega)
    clear hbig hCl hLl
    go_wp2
    go_ret
    exact ⟨rfl, HB0.out⟩
  · have b0 : decide ((65535 : Int) < (C.length : Int)) = false := decide_eq_false (by omega)
    have hC6 : C.length ≤ 65535 := by omega
    clear hbig hCl
    obtain ⟨n, hn, hcase⟩ : ∃ n : Nat, n ≤ C.length ∧ ((a < 0 ∧ -((a + 1).tmod (C.length + 1)) = n) ∨ (0 ≤ a ∧ a % (C.length + 1) = n)) := by
      by_cases h : a < 0
      · have h1 := Int.tmod_nonneg ((C.length : Int) + 1) (show 0 ≤ -(a + 1) by omega)
        have h2 := Int.tmod_lt_of_pos (-(a + 1)) (show (0 : Int) < (C.length : Int) + 1 by omega)
        exact ⟨((-(a + 1)).tmod ((C.length : Int) + 1)).toNat, by omega, .inl ⟨h, by rw [← Int.neg_tmod]; omega⟩⟩
      · have h1 := Int.emod_nonneg a (show ((C.length : Int) + 1) ≠ 0 by omega)
        have h2 := Int.emod_lt_of_pos a (show (0 : Int) < (C.length : Int) + 1 by omega)
        exact ⟨(a % ((C.length : Int) + 1)).toNat, by omega, .inr ⟨by omega, by omega⟩⟩
    have HN := Lib.hid hn
    have HC6 := Lib.hid hC6
    clear hn
    rcases hcase with ⟨hneg, e1⟩ | ⟨hneg, e1⟩
    all_goals
      have HE1 := Lib.hid e1
      clear e1
      go_wp2_with fail
      rw [HE1.out]
      clear hneg a1 a2 b0 hC6
      go_loopw [10, 11] (fun v i wr => CutRel w C n v i wr) (fun _ i _ => n - (intOf i).toNat)
      case atStart => exact ⟨0, Nat.zero_le _, rfl, Row.nil _ _ _, by simp [blk], HB0.out⟩
      case round =>
        obtain ⟨k, hk, rfl, hrow, hblk, hbw⟩ := hrel
        obtain ⟨va, vc, rfl, _⟩ := hrow.cells
        have HCL6 : Hid ((calm (C.take k)).length ≤ 65535) := Lib.hid (by
          unfold calm
          refine Nat.le_trans (List.length_filter_le _ _) ?_
          rw [List.length_take]; have := HC6.out; omega)
        by_cases hlt : k < n
        · obtain ⟨x, hx⟩ : ∃ x, C[k]? = some x := ⟨_, List.getElem?_eq_getElem (by have := HN.out; omega)⟩
          obtain ⟨cb, coff, rfl, hcb, y0, y1, y2⟩ := ch_cells HC2.out hx
          have u0 := (hbw.cell (p := ⟨cb, coff + k * 3, none⟩) hcb).trans y0
          have u1 := (hbw.cell (p := ⟨cb, coff + k * 3 + 1, none⟩) hcb).trans y1
          have u2 := (hbw.cell (p := ⟨cb, coff + k * 3 + 2, none⟩) hcb).trans y2
          have hstep := calm_step hx
          have hkC : k < C.length := by have := HN.out; omega
          have hk6 : k ≤ 1099511627776 := by have := HC6.out; omega
          by_cases h5 : x.kind = 5
          · rw [if_pos h5, List.append_nil] at hstep
            have HST := Lib.hid hstep
            have HROW := Lib.hid hrow
            have HBLK := Lib.hid hblk
            have HBW := Lib.hid hbw
            have b5 : (x.kind != 5) = false := by simpa using h5
            rw [h5] at u0
            clear hstep hrow hblk hbw y0 y1 y2 hx h5
            go_wp2
            go_roundw
            case rel => exact ⟨k + 1, by omega, by go_num, by rw [HST.out]; exact HROW.out, HBLK.out, HBW.out⟩
            case measure => simp [intOf]; omega
          · rw [if_neg h5] at hstep
            obtain ⟨v', w2, hra, hr2, hg2, hb2⟩ := append_choice _ _ _ hrow x (by have := HCL6.out; omega)
            have HST := Lib.hid hstep
            have HRA := Lib.hid hra
            have HR2 := Lib.hid hr2
            have HG2 := Lib.hid hg2
            have HB2 := Lib.hid hb2
            have HBLK := Lib.hid hblk
            have HBW := Lib.hid hbw
            have b5 : (x.kind != 5) = true := by simpa using h5
            clear hstep hrow hblk hbw y0 y1 y2 hx h5 hra hr2 hg2 hb2
            have hra' := HRA.out
            go_wp2_with (at_builtin; refine Lib.wpList_append_run _ rfl _ _ _ _ rfl _ _ rfl rfl _ _ hra' ?_)
            go_roundw
            case rel =>
              refine ⟨k + 1, by omega, by go_num, by rw [HST.out]; exact HR2.out, fun q hq => ?_, ⟨HG2.out.os.trans HBW.out.os, HG2.out.tape.trans HBW.out.tape, HG2.out.output.trans HBW.out.output, Nat.le_trans HBW.out.size HG2.out.size, fun q hq => (HG2.out.block q (Nat.lt_of_lt_of_le hq HBW.out.size) (fun e => by have := HBLK.out q e.symm; omega)).trans (HBW.out.block q hq)⟩⟩
              rcases HB2.out with e | e
              · rw [hq] at e; exact HBLK.out q e.symm
              · have := e q hq; have := HBW.out.size; omega
            case measure => simp [intOf]; omega
        · obtain rfl : k = n := by omega
          have hcalm : ∀ c ∈ calm (C.take k), c.kind ≠ 5 := fun c hc => by have := (List.mem_filter.1 hc).2; simpa using this
          have hcin : ∀ c ∈ calm (C.take k), c ∈ C := fun c hc => List.mem_of_mem_take (List.mem_filter.1 hc).1
          obtain ⟨l, hl⟩ : ∃ l, l = calm (C.take k) := ⟨_, rfl⟩
          have hcl := HCL6.out
          clear HCL6
          rw [← hl] at hrow hcl hcalm hcin
          rw [← hl]
          obtain ⟨wv, w2, ha1, rw1, hb1, hk1⟩ := append_choices _ _ l hrow (by omega)
          have hrow2 := hrow.bel hb1
          obtain ⟨cv3, w3, ha2, rw2, hg2, hk2⟩ := append_choice w2 _ l hrow2 crash (by omega)
          have hwne : ∀ q, blk wv = some q → blk (.slice va l.length vc) ≠ some q := fun q hq e => by have h1 := hk1 q hq; have h2 := hrow.lt q e; omega
          have rw3 : Row w3 63 3 wv l.length (l.flatMap chcells) := rw1.kept fun q hq => hg2.block q (rw1.lt q hq) (fun e => hwne q hq e.symm)
          have hb3 : Below w.heap.size w w3 := ⟨hg2.os.trans (hb1.os.trans hbw.os), hg2.tape.trans (hb1.tape.trans hbw.tape), hg2.output.trans (hb1.output.trans hbw.output), Nat.le_trans hbw.size (Nat.le_trans hb1.size hg2.size), fun q hq => (hg2.block q (Nat.lt_of_lt_of_le hq (Nat.le_trans hbw.size hb1.size)) (fun e => by rw [← hl] at hblk; have := hblk q e.symm; omega)).trans ((hb1.block q (Nat.lt_of_lt_of_le hq hbw.size)).trans (hbw.block q hq))⟩
          obtain ⟨wva, wvc, rfl, _⟩ := rw1.cells
          have HA1 := Lib.hid ha1
          have HA2 := Lib.hid ha2
          have HR1 := Lib.hid rw3
          have HR2 := Lib.hid rw2
          have HB3 := Lib.hid hb3
          have HCALM := Lib.hid hcalm
          have HCIN := Lib.hid hcin
          have HLL6 := Lib.hid hcl
          clear hrow hcl hcalm hcin hl ha1 rw1 hb1 hk1 hrow2 ha2 rw2 hg2 hk2 hwne rw3 hb3 hblk hbw HC2 HC1 HB0
          have hN1 := new_any _ _ (l ++ [crash]) F w3 HR2.out.rd (by rw [List.length_append]; have := HLL6.out; simp; omega) ((show FlS w (.slice fa F.length fc) F from ⟨fa, fc, rfl, HFC.out⟩).bel HB3.out) (by have := HFL.out; unfold maxLen at this; omega) (fun x hx => (HFS.out x hx).1)
          have HN1 := Lib.hid hN1
          clear hN1
          have ha2' := HA2.out
          simp only [crash, noS] at ha2'
          have ha1' := HA1.out
          clear HA1 HA2
          rcases mkNew_twin F HLL6.out HCALM.out with ⟨m1, m2⟩ | ⟨s0, v0, m1, m2, htw⟩
          · go_wp2_with (at_builtin; first | (refine Lib.wpList_append_run _ rfl _ _ _ _ rfl _ _ rfl rfl _ _ ha1' ?_) | (refine Lib.wpList_append_run _ rfl _ _ _ _ rfl _ _ rfl rfl _ _ ha2' ?_))
            refine HN1.out.mono ?_
            rw [m1]
            rintro e w4 ⟨rfl, hb4⟩
            have hN2 := new_any _ _ l F w4 (HR1.out.bel hb4).rd (by have := HLL6.out; omega) (((show FlS w (.slice fa F.length fc) F from ⟨fa, fc, rfl, HFC.out⟩).bel HB3.out).bel hb4) (by have := HFL.out; unfold maxLen at this; omega) (fun x hx => (HFS.out x hx).1)
            rw [m2] at hN2
            have HN2 := Lib.hid hN2
            have HB4 := Lib.hid (HB3.out.trans (hb4.mono HB3.out.size))
            clear hN2 hb4 m1 m2 HN1 ha1' ha2' HB3 HR1 HR2
            go_wp2_with fail
            refine HN2.out.mono ?_
            rintro e w5 ⟨rfl, hb5⟩
            have HB5 := Lib.hid (HB4.out.trans (hb5.mono HB4.out.size))
            clear hb5 HB4 HN2
            go_wp2
            go_ret
            exact ⟨rfl, HB5.out⟩
          · have HM1 := Lib.hid m1
            have HM2 := Lib.hid m2
            have HTW := Lib.hid htw
            clear m1 m2 htw
            go_wp2_with (at_builtin; first | (refine Lib.wpList_append_run _ rfl _ _ _ _ rfl _ _ rfl rfl _ _ ha1' ?_) | (refine Lib.wpList_append_run _ rfl _ _ _ _ rfl _ _ rfl rfl _ _ ha2' ?_))
            refine HN1.out.mono ?_
            rw [HM1.out]
            rintro e w4 ⟨p, own1, g1, rfl, hR1, hO1, hB1⟩
            have hN2 := new_any _ _ l F w4 (HR1.out.bel hB1).rd (by have := HLL6.out; omega) (((show FlS w (.slice fa F.length fc) F from ⟨fa, fc, rfl, HFC.out⟩).bel HB3.out).bel hB1) (by have := HFL.out; unfold maxLen at this; omega) (fun x hx => (HFS.out x hx).1)
            rw [HM2.out] at hN2
            have HN2 := Lib.hid hN2
            have HB4 := Lib.hid (HB3.out.trans (hB1.mono HB3.out.size))
            have HRa := Lib.hid hR1
            have HOa := Lib.hid hO1
            have HB43 := Lib.hid hB1.size
            clear hN2 hR1 hO1 hB1 HN1 ha1' ha2' HR1 HR2
            go_wp2_with fail
            refine HN2.out.mono ?_
            rintro e w5 ⟨q, own2, g2, rfl, hR2, hO2, hB2⟩
            have hT5 : Two w p q s0 v0 w5 := ⟨own1, g1, own2, g2, HRa.out.bel hB2, hR2, fun k hk => hO2 k (HRa.out.owns k hk), fun k hk => ⟨HOa.out k (Nat.lt_of_lt_of_le hk HB3.out.size), hO2 k (Nat.lt_of_lt_of_le hk HB4.out.size)⟩, HB4.out.trans (hB2.mono HB4.out.size)⟩
            obtain ⟨m1, m2, m3, m4, m5, m6, m7⟩ := mkNew_all HM1.out
            have hc0 : ∀ c ∈ s0.ch, c.text.size ≤ 281474976710656 := by
              rw [m1]
              intro c hc
              rcases List.mem_append.1 hc with hc | hc
              · exact HCT.out c (HCIN.out c hc)
              · rw [List.mem_singleton.1 hc]; exact Nat.zero_le _
            have HT5 := Lib.hid hT5
            have hl0 : s0.ch.length ≤ 65536 := by rw [m1, List.length_append]; have := HLL6.out; simp; omega
            have hs0 : Hid (s0.told.length + s0.ch.length ≤ 65536 ∧ s0.writes + s0.ch.length ≤ 65536 ∧ s0.hs.length + s0.ch.length ≤ 65536 ∧ ∀ c ∈ s0.ch, c.text.size ≤ 281474976710656) := Lib.hid ⟨by rw [m4]; simpa using hl0, by rw [m6]; simpa using hl0, by rw [m5]; simpa using hl0, hc0⟩
            clear hR2 hO2 hB2 hT5 m1 m2 m3 m4 m5 m6 m7 hc0 hl0 HRa HOa HB43 HM1 HM2 HN2 HB3 HB4 HCIN HCALM HFC HFS HFL HCT HCL HLL6 HE1
            go_wp2
            go_loopw [17] (fun i wr => DeadRel w p q L i wr) (fun i _ => L.length - (intOf i).toNat)
            case atStart => exact ⟨0, s0, v0, Nat.zero_le _, rfl, HTW.out, hs0.out, HT5.out⟩
            case round =>
              obtain ⟨k, s, v, hk, rfl, htw, ⟨h1, h2, h3, h4⟩, htt⟩ := hrel
              have HTT := Lib.hid htt
              have HT := Lib.hid htw
              have H4 := Lib.hid h4
              have H1 : Hid (s.told.length + s.ch.length ≤ 65536) := Lib.hid h1
              have H2 : Hid (s.writes + s.ch.length ≤ 65536) := Lib.hid h2
              have H3 : Hid (s.hs.length + s.ch.length ≤ 65536) := Lib.hid h3
              clear htt htw h1 h2 h3 h4 HT5 HTW hs0
              by_cases hlt : k < L.length
              · obtain ⟨x, hx⟩ : ∃ x, L[k]? = some x := ⟨_, List.getElem?_eq_getElem hlt⟩
                obtain ⟨lb, loff, rfl, hlb, y0, y1, y2, y3, y4⟩ := act_cells HLC.out hx
                have HX := Lib.hid (HLO.out x (List.mem_of_getElem? hx))
                have hb2 := HTT.out.below
                have u0 := (hb2.cell (p := ⟨lb, loff + k * 5, none⟩) hlb).trans y0
                have u1 := (hb2.cell (p := ⟨lb, loff + k * 5 + 1, none⟩) hlb).trans y1
                have u2 := (hb2.cell (p := ⟨lb, loff + k * 5 + 2, none⟩) hlb).trans y2
                have u3 := (hb2.cell (p := ⟨lb, loff + k * 5 + 3, none⟩) hlb).trans y3
                have u4 := (hb2.cell (p := ⟨lb, loff + k * 5 + 4, none⟩) hlb).trans y4
                have HY := Lib.hid (And.intro hlb (And.intro y0 (And.intro y1 (And.intro y2 (And.intro y3 y4)))))
                have HCA := Lib.hid (call_two HTT.out x HX.out (by have := H1.out; omega) (by have := H2.out; omega) (by have := H3.out; omega) H4.out)
                clear y0 y1 y2 y3 y4 hb2 hx hlb
                rcases twin_call HT.out x with ⟨t1, t2, t3⟩ | ⟨t1, t2, t3⟩
                · have T1 := Lib.hid t1
                  have T2 := Lib.hid t2
                  have T3 := Lib.hid t3
                  clear t1 t2 t3
                  go_wp2_with fail
                  refine HCA.out.mono ?_
                  rintro e w6 ⟨rfl, hT6⟩
                  have hD := dead_two hT6
                  rw [T3.out] at hD
                  have HD := Lib.hid hD
                  have HT6 := Lib.hid hT6
                  clear hD hT6 HCA u0 u1 u2 u3 u4 HTT
                  go_wp2_with fail
                  refine HD.out.mono ?_
                  rintro e w6' ⟨rfl, rfl⟩
                  obtain ⟨hlb, y0, y1, y2, y3, y4⟩ := HY.out
                  have hb2 := HT6.out.below
                  have u0 := (hb2.cell (p := ⟨lb, loff + k * 5, none⟩) hlb).trans y0
                  have u1 := (hb2.cell (p := ⟨lb, loff + k * 5 + 1, none⟩) hlb).trans y1
                  have u2 := (hb2.cell (p := ⟨lb, loff + k * 5 + 2, none⟩) hlb).trans y2
                  have u3 := (hb2.cell (p := ⟨lb, loff + k * 5 + 3, none⟩) hlb).trans y3
                  have u4 := (hb2.cell (p := ⟨lb, loff + k * 5 + 4, none⟩) hlb).trans y4
                  have e0 := HT.out.eq
                  have v1 : v.told.length ≤ 1099511627776 := by rw [← twin_told HT.out]; have := H1.out; omega
                  have v2 : v.writes ≤ 1099511627776 := by
                    have e1 : s.writes = v.writes := by rw [e0]
                    rw [← e1]; have := H2.out; omega
                  have v3 : v.hs.length ≤ 1099511627776 := by
                    have e1 : s.hs = v.hs := by rw [e0]
                    rw [← e1]; have := H3.out; omega
                  have HCB := Lib.hid (call_two HT6.out.swap x HX.out v1 v2 v3 (fun c hc => H4.out c (by rw [e0]; exact List.mem_append_left _ hc)))
                  clear v1 v2 v3
                  clear y0 y1 y2 y3 y4 hb2 hlb e0 HD
                  go_wp2_with fail
                  refine HCB.out.mono ?_
                  rw [← T2.out]
                  rintro e w7 ⟨rfl, hT7⟩
                  have HT7 := Lib.hid hT7
                  clear hT7 HCB HT6 u0 u1 u2 u3 u4
                  go_wp2
                  go_roundw
                  case rel =>
                    obtain ⟨i1, i2, i3, i4⟩ := call_within s x
                    obtain ⟨f1, f2, f3⟩ := call_fuel (s := s) (by rw [HT.out.eq]; exact HT.out.alive) (by rw [HT.out.eq]; simp) x
                    exact ⟨k + 1, _, _, by omega, by go_num, T1.out, ⟨by have := H1.out; omega, by have := H2.out; omega, by have := H3.out; omega, fun c hc => H4.out c (i4 c hc)⟩, HT7.out.swap⟩
                  case measure => simp [intOf]; omega
                · have hvt : v.told.length ≤ 1099511627776 := by rw [← twin_told HT.out]; have := H1.out; omega
                  have HVT := Lib.hid hvt
                  obtain ⟨S, hS⟩ : ∃ S, S = (call s x).1 := ⟨_, rfl⟩
                  have hST : S.told.length ≤ 1099511627776 := by rw [hS, t3]; exact hvt
                  have HST := Lib.hid hST
                  rw [← hS] at t2 t3
                  have T2 := Lib.hid t2
                  have T3 := Lib.hid t3
                  have HS := Lib.hid hS
                  have T1 := Lib.hid t1
                  clear t1 t2 t3 hS hST hvt
                  go_wp2_with fail
                  refine HCA.out.mono ?_
                  rw [← HS.out, T1.out]
                  rintro e w6 ⟨rfl, hT6⟩
                  have hD := dead_two hT6
                  rw [T2.out] at hD
                  have HD := Lib.hid hD
                  have HT6 := Lib.hid hT6
                  clear hD hT6 HCA u0 u1 u2 u3 u4 HTT
                  go_wp2_with fail
                  refine HD.out.mono ?_
                  rintro e w6' ⟨rfl, rfl⟩
                  go_wp2_with fail
                  refine (trace_two HT6.out HST.out).mono ?_
                  rintro e w7 ⟨v1, rfl, hr1, hb1, hn1⟩
                  have HT7 := Lib.hid (HT6.out.k.bel hb1 (blk v1) hn1 hr1.lt)
                  have HWAS := Lib.hid hr1
                  obtain ⟨wa, wc, rfl, _⟩ := hr1.cells
                  clear hr1 hb1 hn1 HT6 HD
                  go_wp2_with fail
                  refine (files_two HT7.out.two).mono ?_
                  rintro e w8 ⟨v2, rfl, hr2, hb2, hl2, hn2⟩
                  have HT8 := Lib.hid (HT7.out.bel hb2 (blk v2) hn2 hr2.lt)
                  have HWAS8 := Lib.hid (HWAS.out.bel hb2)
                  have HRST := Lib.hid hr2
                  have HL2 := Lib.hid hl2
                  obtain ⟨ra, rc, rfl, _⟩ := fl_cells hr2
                  clear hr2 hb2 hl2 hn2 HT7 HWAS
                  go_wp2_with fail
                  refine (show_dead HT8.out T2.out HST.out _).mono ?_
                  rintro e w9 ⟨rfl, hT9, hk9⟩
                  have HT9 := Lib.hid hT9
                  have HWAS9 := Lib.hid (HWAS8.out.kept fun k hk => hk9 k (.inl (.inr hk)))
                  have HRST9 := Lib.hid (HRST.out.kept fun k hk => hk9 k (.inr hk))
                  clear hT9 hk9 HT8 HWAS8 HRST
                  go_wp2_with fail
                  refine (close_dead HT9.out T2.out HST.out _ (by decide)).mono ?_
                  rintro e w10 ⟨rfl, hT10, hk10⟩
                  have HT10 := Lib.hid hT10.two
                  have HWAS10 := Lib.hid (HWAS9.out.kept fun k hk => hk10 k (.inl (.inr hk)))
                  have HRST10 := Lib.hid (HRST9.out.kept fun k hk => hk10 k (.inr hk))
                  clear hT10 hk10 HT9 HWAS9 HRST9
                  go_wp2_with fail
                  refine (size_dead HT10.out T2.out _ (by decide)).mono ?_
                  rintro e w10' ⟨rfl, rfl⟩
                  go_wp2_with fail
                  refine (signal_dead HT10.out T2.out).mono ?_
                  rintro e w10' ⟨rfl, rfl⟩
                  go_wp2_with fail
                  refine (trace_two HT10.out HST.out).mono ?_
                  rintro e w11 ⟨v3, rfl, hr3, hb3, _⟩
                  have HT11 := Lib.hid (HT10.out.bel hb3)
                  have HWAS11 := Lib.hid (HWAS10.out.bel hb3)
                  have HRST11 := Lib.hid (HRST10.out.bel hb3)
                  have HNOW := Lib.hid hr3
                  obtain ⟨na, nc, rfl, _⟩ := hr3.cells
                  clear hr3 hb3 HT10 HWAS10 HRST10
                  go_wp2_with fail
                  refine (files_two HT11.out).mono ?_
                  rintro e w12 ⟨v4, rfl, hr4, hb4, _, _⟩
                  have HT12 := Lib.hid (HT11.out.bel hb4)
                  have HWAS12 := Lib.hid (HWAS11.out.bel hb4)
                  have HRST12 := Lib.hid (HRST11.out.bel hb4)
                  have HNOW12 := Lib.hid (HNOW.out.bel hb4)
                  have HFI := Lib.hid hr4
                  obtain ⟨ia, ic, rfl, _⟩ := fl_cells hr4
                  clear hr4 hb4 HT11 HWAS11 HRST11 HNOW
                  go_wp2_with fail
                  refine (sameD_any _ _ S.told w12 HST.out HWAS12.out HNOW12.out).mono ?_
                  rintro e w13 ⟨rfl, q13, rfl⟩
                  have HRST13 := Lib.hid (HRST12.out.bel (drew_bel w12 q13))
                  have HFI13 := Lib.hid (HFI.out.bel (drew_bel w12 q13))
                  have HT13 := Lib.hid (HT12.out.bel (drew_bel w12 q13))
                  have HWAS13 := Lib.hid (HWAS12.out.bel (drew_bel w12 q13))
                  clear HNOW12 HRST12 HFI HT12 HWAS12
                  go_wp2_with fail
                  refine (sameF_any _ _ (filesOf S) _ (by have := HL2.out; omega) HRST13.out HFI13.out).mono ?_
                  rintro e w14 ⟨rfl, q14, rfl⟩
                  have hT14 := HT13.out.bel (drew_bel _ q14)
                  have hWAS14 := HWAS13.out.bel (drew_bel _ q14)
                  rw [World.drewN_drewN] at hT14 hWAS14
                  have HT14 := Lib.hid hT14
                  have HWAS14 := Lib.hid hWAS14
                  clear hT14 hWAS14
                  clear HRST13 HFI13 HT13 HWAS13
                  go_wp2_with fail
                  refine (trace_two HT14.out.swap HVT.out).mono ?_
                  rw [← T3.out]
                  rintro e w15 ⟨v5, rfl, hr5, hb5, _⟩
                  have HT15 := Lib.hid (HT14.out.bel hb5)
                  have HWAS15 := Lib.hid (HWAS14.out.bel hb5)
                  have HOT := Lib.hid hr5
                  obtain ⟨oa, oc, rfl, _⟩ := hr5.cells
                  clear hr5 hb5 HT14 HWAS14
                  go_wp2_with fail
                  refine (sameD_any _ _ S.told w15 HST.out HWAS15.out HOT.out).mono ?_
                  rintro e w16 ⟨rfl, q16, rfl⟩
                  go_wp2
                  go_ret
                  exact ⟨rfl, (HT15.out.bel (drew_bel _ q16)).below⟩
              · obtain rfl : k = L.length := by omega
                have hvt : v.told.length ≤ 1099511627776 := by rw [← twin_told HT.out]; have := H1.out; omega
                have HVT := Lib.hid hvt
                clear hvt
                go_wp2_with fail
                refine (trace_two HTT.out (by rw [twin_told HT.out]; exact HVT.out)).mono ?_
                rw [twin_told HT.out]
                rintro e w7 ⟨v1, rfl, hr1, hb1, _⟩
                have HT7 := Lib.hid (HTT.out.bel hb1)
                have HX1 := Lib.hid hr1
                obtain ⟨wa, wc, rfl, _⟩ := hr1.cells
                clear hr1 hb1
                go_wp2_with fail
                refine (trace_two HT7.out.swap HVT.out).mono ?_
                rintro e w8 ⟨v2, rfl, hr2, hb2, _⟩
                have HT8 := Lib.hid (HT7.out.bel hb2)
                have HX8 := Lib.hid (HX1.out.bel hb2)
                have HY2 := Lib.hid hr2
                obtain ⟨ya, yc, rfl, _⟩ := hr2.cells
                clear hr2 hb2 HX1 HT7
                go_wp2_with fail
                refine (sameD_any _ _ v.told w8 HVT.out HX8.out HY2.out).mono ?_
                rintro e w9 ⟨rfl, q9, rfl⟩
                go_wp2
                go_ret
                exact ⟨rfl, (HT8.out.bel (drew_bel _ q9)).below⟩
end Go.Proofs.YtpkhghjmelgpeaaGreat.Wk
set_option linter.unusedVariables false
namespace Go.Proofs.YtpkhghjmelgpeaaGreat.Wk
open Go.ChangeShapes Go.WideShapes Go.ChangeAt Go.RowKit M Go.Maps Go.Proofs

set_option maxRecDepth 100000 in
theorem WorldDead_walk {H : Type} {enc : TypeId × Value → H} {base : Nat} {d0 d1 d2 : DataW H} {p0 p1 p2 : List MemPlace} (cv fv lv : Value) (a : Int) (w : World) (hv0 : Value.okWide Tryz.prog w .any base 22 cv) (h0 : DataW.Trod enc Tryz.prog w 0 (fun _ => true) true 22 cv d0 p0) (hv1 : Value.okWide Tryz.prog w .any base 23 fv) (h1 : DataW.Trod enc Tryz.prog w 0 (fun _ => true) true 23 fv d1 p1) (hv2 : Value.okWide Tryz.prog w .any base 24 lv) (h2 : DataW.Trod enc Tryz.prog w 0 (fun _ => true) true 24 lv d2 p2) (ha : (Lit.int .i64 a).wf = true)
    (hsz : (DataW.weightsEach Tryz.prog [22, 23, 24, 3] [d0, d1, d2, .lit (.int .i64 a)]).all (· ≤ reachBytes) = true) :
    Calls Tryz.prog 4 #[cv, fv, lv, .int .i64 a] w fun e w' => e = .returned (.bool true) ∧ Below w.heap.size w w' := by
  obtain ⟨C, c1, c2, c3, c4, c5⟩ := open_choices hv0 h0
  obtain ⟨F, f1, f2, f3⟩ := open_files hv1 h1
  obtain ⟨L, l1, l2, l3, l4⟩ := open_acts hv2 h2
  exact WorldDead_in C F L cv fv lv a w c1 (by unfold maxLen at c2; omega) (fun c hc => by
    have hm := DataW.weights_mem_each (j := 0) (ts := [22, 23, 24, 3]) (ds := [d0, d1, d2, .lit (.int .i64 a)]) rfl rfl _ (c5 c hc).2.2.2.2
    have hle := List.all_eq_true.1 hsz _ hm
    have : c.text.size ≤ reachBytes := by simpa using hle
    unfold reachBytes at this
    omega) f1 f2 f3 l1 (by unfold maxLen at l2; omega) l4 ha
end Go.Proofs.YtpkhghjmelgpeaaGreat.Wk
namespace Go.Proofs.YtpkhghjmelgpeaaGreat.worldDeadF
open Go.ChangeShapes Go.WideShapes Go.ChangeAt Go.RowKit
open Go.ChangeMaps (open_string shut_string)
set_option linter.unusedVariables false
theorem own : ownKnob Tryz.prog.godebug = none := by kernel_rfl
theorem laidOut : laidOutB Tryz.prog = true := by kernel_rfl
set_option maxRecDepth 100000 in
theorem lifted (os : Os) (started : os.Started) (H : Type) (enc : TypeId × Value → H) :
    ReturnsInHanded {} Tryz.checked os 4 .any (Rows.worldDeadSpec.pre6 enc Tryz.prog Tryz.f4 Rows.worldDeadRow.domain false) (Rows.worldDeadSpec.post enc Tryz.prog Tryz.f4 false true false false) := by
  refine returnsInHanded_of_change_sized (C := Tryz.checked) own started (by kernel_rfl) Tryz.func4
    (ChangeSpec.witness6 (enc := enc) (C := Tryz.checked) false ⟨#[], #[.slice none 0 0, .slice none 0 0, .slice none 0 0, .int .i64 0], []⟩ 8 (by kernel_rfl) (by kernel_rfl) (by kernel_rfl) (by kernel_rfl)) ?_
  intro W base args ds gs before hval0 hW hcnd hsz0 _
  have hval : ∀ (j : Nat) t v, Tryz.f4.params[j]? = some t → args[j]? = some v → Value.okWide Tryz.prog W .any base t v := hval0
  have hW' := hW
  obtain ⟨p, q, hA0, hV, rfl, hfz, hnd⟩ := hW
  have hA : DataW.TrodAll enc Tryz.prog W 0 (fun _ => true) true Tryz.f4.params.toList args.toList ds p := hA0
  rw [Tryz.params4] at hA hval
  obtain ⟨v0, vs0, d0, ds0, p0, q0, hargs, rfl, rfl, h0, r0⟩ := trodAll_cons hA
  obtain ⟨v1, vs1, d1, ds1, p1, q1, rfl, rfl, rfl, h1, r1⟩ := trodAll_cons r0
  obtain ⟨v2, vs2, d2, ds2, p2, q2, rfl, rfl, rfl, h2, r2⟩ := trodAll_cons r1
  obtain ⟨v3, vs3, d3, ds3, p3, q3, rfl, rfl, rfl, h3, r3⟩ := trodAll_cons r2
  obtain ⟨rfl, rfl, rfl⟩ := trodAll_nil r3
  obtain rfl : args = #[v0, v1, v2, v3] := by cases args; simp_all
  obtain ⟨rfl, rfl⟩ := trodVars_none hV
  have lt0 : ∀ x ∈ p0, x.block < W.heap.size := by obtain ⟨m, hm⟩ := h0; exact DataW.trod_lt m _ _ _ hm
  have lt1 : ∀ x ∈ p1, x.block < W.heap.size := by obtain ⟨m, hm⟩ := h1; exact DataW.trod_lt m _ _ _ hm
  have lt2 : ∀ x ∈ p2, x.block < W.heap.size := by obtain ⟨m, hm⟩ := h2; exact DataW.trod_lt m _ _ _ hm
  obtain ⟨a3, rfl, rfl, rfl, w3⟩ := open_int Tryz.underlying3 (hval 3 3 v3 rfl rfl) h3
  have hsz : (DataW.weightsEach Tryz.prog [22, 23, 24, 3] [d0, d1, d2, .lit (.int .i64 a3)]).all (· ≤ reachBytes) = true := hsz0
  clear hA0 hval0
  refine (Wk.WorldDead_walk v0 v1 v2 a3 W (hval 0 22 v0 rfl rfl) h0 (hval 1 23 v1 rfl rfl) h1 (hval 2 24 v2 rfl rfl) h2 w3 hsz).mono fun e W' ⟨he, bel⟩ => ?_
  subst he
  exact ⟨_, rfl, _, _, _, [], _, [], hW', trodAll_mk1 (shut_bool Tryz.underlying4 _), (trodAll_cons_mk (Below.trod laidOut (by kernel_rfl) (of_decide_eq_true (by kernel_rfl)) h0 bel lt0) (trodAll_cons_mk (Below.trod laidOut (by kernel_rfl) (of_decide_eq_true (by kernel_rfl)) h1 bel lt1) (trodAll_cons_mk (Below.trod laidOut (by kernel_rfl) (of_decide_eq_true (by kernel_rfl)) h2 bel lt2) (trodAll_cons_mk (shut_int Tryz.underlying3 w3) trodAll_mk0)))), rfl, bel.frame _, fun h => by cases h⟩
theorem over : Rows.worldDeadRow.holds Tryz.pinned (OpenSpec.ofChange Rows.worldDeadSpec) :=
  OpenClaim.holds_of_wide 4 Tryz.f4 rfl rfl rfl rfl rfl rfl rfl ⟨rfl, rfl, rfl, rfl, rfl⟩ rfl rfl rfl rfl rfl (by kernel_rfl) Tryz.func4 (by kernel_rfl)
    (of_decide_eq_true (by kernel_rfl)) (by unfold Func.isWrapper; first | (rw [if_pos (by decide +kernel)]; kernel_rfl) | (rw [if_neg (by decide +kernel)]; exact ⟨rfl, rfl⟩))
    (fun os started H enc _ => lifted os started H enc)
theorem proved : Rows.WorldDeadSaid := over
#print axioms proved
end Go.Proofs.YtpkhghjmelgpeaaGreat.worldDeadF
