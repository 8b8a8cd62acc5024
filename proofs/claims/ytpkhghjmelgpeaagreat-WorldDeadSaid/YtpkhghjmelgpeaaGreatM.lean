/- The world as plain data: its state, and what each operation makes of it. No text of the program. -/
import GoSem.Core.Value
set_option linter.unusedVariables false
namespace Go.Proofs.YtpkhghjmelgpeaaGreat.M

structure Ch where
  kind : Int
  n : Int
  text : ByteArray
structure Dd where
  kind : Int
  handle : Int
  text : ByteArray
  to : ByteArray
  n : Int
  err : Int
/-- A write: its order, whether it empties the file, where, what. -/
structure Wr where
  ord : Nat
  emp : Bool
  at_ : Nat
  text : ByteArray
structure Fs where
  name : ByteArray
  now : List UInt8
  base : List UInt8
  uns : List Wr
inductive Hd where
  | closed
  | file (stale : Bool) (f : Nat) (mode : Int) (at_ : Nat)
  | host (stale : Bool)
structure St where
  ch : List Ch
  clock : Int
  dead : Bool
  told : List Dd
  fs : List Fs
  hs : List Hd
  writes : Nat

def noS : ByteArray := ⟨#[]⟩
def noCh : Ch := ⟨7, 0, noS⟩
def deadD : Dd := ⟨0, 0, noS, noS, 0, 36⟩

def nameByte (b : UInt8) : Bool :=
  decide (97 ≤ b.toNat ∧ b.toNat ≤ 122 ∨ 65 ≤ b.toNat ∧ b.toNat ≤ 90 ∨ 48 ≤ b.toNat ∧ b.toNat ≤ 57 ∨ b.toNat = 46 ∨ b.toNat = 45 ∨ b.toNat = 95 ∨ b.toNat = 47)
def isName (s : ByteArray) : Bool := decide (1 ≤ s.size ∧ s.size ≤ 64) && s.data.toList.all nameByte

def app (b : List UInt8) (c : Wr) : List UInt8 :=
  if c.emp then [] else b.take c.at_ ++ List.replicate (c.at_ - b.length) 0 ++ c.text.data.toList ++ b.drop (c.at_ + c.text.size)

/-- The file of a name (nothing is no name of a file that is there). -/
def find (fs : List Fs) (s : ByteArray) : Option Nat := fs.findIdx? fun f => decide (f.name = s ∧ s ≠ noS)
def named (fs : List Fs) : Nat := (fs.filter fun f => decide (f.name ≠ noS)).length
def Hd.live : Hd → Bool
  | .file false _ _ _ => true
  | .host false => true
  | _ => false
def live (hs : List Hd) : Nat := (hs.filter Hd.live).length
/-- The handle of a number (they begin at one). -/
def hdOf (hs : List Hd) (n : Int) : Hd := if 1 ≤ n then hs.getD (n.toNat - 1) .closed else .closed
def fileErr (hs : List Hd) (n : Int) : Int :=
  match hdOf hs n with
  | .file false _ _ _ => 0
  | .file true _ _ _ => 31
  | _ => 30

def chosen (c : Ch) (k : Int) : Int := if c.kind ≠ k ∨ c.n < 30 ∨ 35 < c.n then 0 else c.n

/-- What every operation is: d as it was asked, act what it does. -/
def perform (s : St) (d : Dd) (act : St → Ch → Dd → St × Dd) : St × Dd :=
  if s.dead then (s, deadD) else
  let c := s.ch.headD noCh
  let s1 := { s with ch := s.ch.tail }
  if c.kind = 5 then ({ s1 with dead := true }, deadD) else
  let e := if d.kind ≤ 8 then chosen c 4 else 0
  if e ≠ 0 then ({ s1 with told := s1.told ++ [{ d with err := e }] }, { d with err := e }) else
  let r := act s1 c d
  ({ r.1 with told := r.1.told ++ [r.2] }, r.2)

def setF (fs : List Fs) (i : Nat) (f : Fs → Fs) : List Fs := fs.modify i f

/-- A write in a file. -/
def change (s : St) (i : Nat) (emp : Bool) (at_ : Nat) (text : ByteArray) : St :=
  { s with writes := s.writes + 1, fs := setF s.fs i fun f => { f with now := app f.now ⟨s.writes, emp, at_, text⟩, uns := f.uns ++ [⟨s.writes, emp, at_, text⟩] } }

def refuses (s : St) (name : ByteArray) (mode : Int) : Int :=
  if isName name = false then 35
  else if mode < 1 ∨ 3 < mode then 33
  else if find s.fs name = none ∧ mode = 1 then 32
  else if live s.hs = 32 ∨ find s.fs name = none ∧ named s.fs = 64 then 34
  else 0

def made (s : St) (name : ByteArray) : St × Nat :=
  match find s.fs name with
  | some i => (s, i)
  | none => ({ s with fs := s.fs ++ [⟨name, [], [], []⟩] }, s.fs.length)

def actOpen (name : ByteArray) (mode : Int) (s : St) (c : Ch) (d : Dd) : St × Dd :=
  if refuses s name mode ≠ 0 then (s, { d with err := refuses s name mode }) else
  let (s1, i) := made s name
  let s2 := if mode = 2 then change s1 i true 0 noS else s1
  ({ s2 with hs := s2.hs ++ [.file false i mode 0] }, { d with handle := s2.hs.length + 1, err := 0 })

def nowOf (fs : List Fs) (i : Nat) : List UInt8 := match fs[i]? with | some f => f.now | none => []

def onFile (do_ : St → Dd → Nat → Int → Nat → St × Dd) (s : St) (c : Ch) (d : Dd) : St × Dd :=
  match hdOf s.hs d.handle with
  | .file false i mode at_ => do_ s d i mode at_
  | .file true _ _ _ => (s, { d with err := 31 })
  | _ => (s, { d with err := 30 })

def strOf (l : List UInt8) : ByteArray := ⟨l.toArray⟩
def setAt (hs : List Hd) (n : Int) (h : Hd) : List Hd := hs.set (n.toNat - 1) h

def actRead (n : Int) (s : St) (d : Dd) (i : Nat) (mode : Int) (at_ : Nat) : St × Dd :=
  if mode ≠ 1 then (s, { d with err := 33 })
  else if n < 0 then (s, { d with err := 1 })
  else
    let t := ((nowOf s.fs i).drop at_).take n.toNat
    ({ s with hs := setAt s.hs d.handle (.file false i mode (at_ + t.length)) }, { d with text := strOf t, err := 0 })

def actWrite (t : ByteArray) (s : St) (d : Dd) (i : Nat) (mode : Int) (at_ : Nat) : St × Dd :=
  if mode = 1 then (s, { d with err := 33 })
  else
    let p := if mode = 3 then (nowOf s.fs i).length else at_
    if 4194304 < p + t.size then (s, { d with err := 34 })
    else
      let s1 := change s i false p t
      ({ s1 with hs := setAt s1.hs d.handle (.file false i mode (p + t.size)) }, { d with err := 0 })

def actSeek (n : Int) (s : St) (d : Dd) (i : Nat) (mode : Int) (at_ : Nat) : St × Dd :=
  if n < 0 ∨ ((nowOf s.fs i).length : Int) < n then (s, { d with err := 1 })
  else ({ s with hs := setAt s.hs d.handle (.file false i mode n.toNat) }, { d with err := 0 })

def actSync (s : St) (d : Dd) (i : Nat) (mode : Int) (at_ : Nat) : St × Dd :=
  ({ s with fs := setF s.fs i fun f => { f with base := f.now, uns := [] } }, { d with err := 0 })

def actClose (n : Int) (s : St) (c : Ch) (d : Dd) : St × Dd :=
  match hdOf s.hs n with
  | .closed => (s, { d with err := 30 })
  | .file true _ _ _ => (s, { d with err := 31 })
  | .host true => (s, { d with err := 31 })
  | _ => ({ s with hs := setAt s.hs n .closed }, { d with err := 0 })

def actRename (a b : ByteArray) (s : St) (c : Ch) (d : Dd) : St × Dd :=
  if isName a = false ∨ isName b = false then (s, { d with err := 35 })
  else match find s.fs a with
  | none => (s, { d with err := 32 })
  | some i =>
    if a = b then (s, { d with err := 0 }) else
    ({ s with fs := setF (match find s.fs b with | some k => setF s.fs k (fun f => { f with name := noS }) | none => s.fs) i (fun f => { f with name := b }) }, { d with err := 0 })

def actNone (s : St) (c : Ch) (d : Dd) : St × Dd := (s, { d with err := 0 })

def sizeOf (s : St) (n : Int) : Int × Int :=
  if s.dead then (0, 36) else
  match hdOf s.hs n with
  | .file false i _ _ => ((nowOf s.fs i).length, 0)
  | .file true _ _ _ => (0, 31)
  | _ => (0, 30)

/-- What holds of every state. -/
structure Wf (s : St) : Prop where
  names : ∀ (i k : Nat) (f g : Fs), s.fs[i]? = some f → s.fs[k]? = some g → f.name = g.name → f.name ≠ noS → i = k
  isName : ∀ f ∈ s.fs, f.name ≠ noS → isName f.name = true
  now : ∀ f ∈ s.fs, f.now = f.uns.foldl app f.base
  len : ∀ f ∈ s.fs, f.now.length ≤ 4194304 ∧ f.base.length ≤ 4194304
  uns : ∀ f ∈ s.fs, ∀ c ∈ f.uns, c.at_ + c.text.size ≤ 4194304 ∧ c.ord < s.writes
  hs : ∀ b i m a, Hd.file b i m a ∈ s.hs → i < s.fs.length ∧ 0 ≤ a ∧ a ≤ 4194304
  ords : ∀ f ∈ s.fs, f.uns.Pairwise (fun a b => a.ord < b.ord)
  apart : ∀ (i k : Nat) (f g : Fs), s.fs[i]? = some f → s.fs[k]? = some g → i ≠ k → ∀ a ∈ f.uns, ∀ b ∈ g.uns, a.ord ≠ b.ord
  full : named s.fs ≤ 64 ∧ live s.hs ≤ 32
  clock : 0 ≤ s.clock ∧ s.clock ≤ 1000000000000000000
end Go.Proofs.YtpkhghjmelgpeaaGreat.M
