/- The chapter's examples, as plain data. No text of the program. -/
import Derived.Test.YtpkhghjmelgpeaaGreatW33
set_option linter.unusedVariables false
namespace Go.Proofs.YtpkhghjmelgpeaaGreat.Wk
open M
namespace Ex
def sa : ByteArray := ⟨#[97]⟩
def sxyz : ByteArray := ⟨#[120, 121, 122]⟩
def sxy : ByteArray := ⟨#[120, 121]⟩
def sq : ByteArray := ⟨#[113]⟩
def snew : ByteArray := ⟨#[110, 101, 119]⟩
def s1 : ByteArray := ⟨#[49]⟩
def s2 : ByteArray := ⟨#[50]⟩
def d1 : Dd := ⟨1, 1, sa, noS, 1, 0⟩
def d2 : Dd := ⟨2, 1, sxy, noS, 2, 0⟩
def d3 : Dd := ⟨3, 1, sq, noS, 0, 33⟩
def d4 : Dd := ⟨1, 2, sa, noS, 2, 0⟩
def d5 : Dd := ⟨3, 2, snew, noS, 0, 0⟩
def f0 : Fs := ⟨sa, [120, 121, 122], [120, 121, 122], []⟩
def f4 : Fs := ⟨sa, [], [120, 121, 122], [⟨0, true, 0, noS⟩]⟩
def f5 : Fs := ⟨sa, [110, 101, 119], [120, 121, 122], [⟨0, true, 0, noS⟩, ⟨1, false, 0, snew⟩]⟩
def S0 : St := ⟨[], 0, false, [], [f0], [], 0⟩
def S1 : St := ⟨[], 0, false, [d1], [f0], [.file false 0 1 0], 0⟩
def S2 : St := ⟨[], 0, false, [d1, d2], [f0], [.file false 0 1 2], 0⟩
def S3 : St := ⟨[], 0, false, [d1, d2, d3], [f0], [.file false 0 1 2], 0⟩
def S4 : St := ⟨[], 0, false, [d1, d2, d3, d4], [f4], [.file false 0 1 2, .file false 0 2 0], 1⟩
def S5 : St := ⟨[], 0, false, [d1, d2, d3, d4, d5], [f5], [.file false 0 1 2, .file false 0 2 3], 2⟩
def C0 : St := ⟨[⟨7, 0, noS⟩, ⟨5, 0, noS⟩], 0, false, [], [], [], 0⟩
def C1 : St := ⟨[⟨5, 0, noS⟩], 0, false, [⟨13, 0, s1, noS, 0, 0⟩], [], [], 0⟩
def C2 : St := ⟨[], 0, true, [⟨13, 0, s1, noS, 0, 0⟩], [], [], 0⟩
theorem e0 : mkNew [] [(sa, sxyz)] = some S0 := rfl
theorem e1 : perform S0 ⟨1, 0, sa, noS, 1, 0⟩ (actOpen sa 1) = (S1, d1) := rfl
theorem e2 : perform S1 ⟨2, 1, noS, noS, 2, 0⟩ (M.onFile (actRead 2)) = (S2, d2) := rfl
theorem e3 : perform S2 ⟨3, 1, sq, noS, 0, 0⟩ (M.onFile (actWrite sq)) = (S3, d3) := rfl
theorem e4 : perform S3 ⟨1, 0, sa, noS, 2, 0⟩ (actOpen sa 2) = (S4, d4) := rfl
theorem e5 : perform S4 ⟨3, 2, snew, noS, 0, 0⟩ (M.onFile (actWrite snew)) = (S5, d5) := rfl
theorem g0 : mkNew [⟨7, 0, noS⟩, ⟨5, 0, noS⟩] [] = some C0 := rfl
theorem g1 : perform C0 ⟨13, 0, s1, noS, 0, 0⟩ actNone = (C1, ⟨13, 0, s1, noS, 0, 0⟩) := rfl
theorem g2 : perform C1 ⟨13, 0, s2, noS, 0, 0⟩ actNone = (C2, deadD) := rfl
theorem ords : ordersOf S5.fs = [0, 1] := by
  unfold ordersOf
  have : (namedIx S5.fs).flatMap (riskedOf S5.fs) = [0, 1] := rfl
  rw [this]
  exact List.mergeSort_of_pairwise (by simp)
theorem named5 : namedIx S5.fs = [0] := rfl
theorem left2 (cs : List Ch) (is : List Nat) (h : is.Perm (namedIx S5.fs)) : leftSt S5 2 cs is = ⟨cs, 0, false, [], [⟨sa, [110, 101, 119], [110, 101, 119], []⟩], [], 0⟩ := by
  rw [named5, List.perm_singleton] at h
  subst h
  unfold leftSt
  simp only [List.map_cons, List.map_nil]
  rw [leftF_at (f := f5) rfl, ords]
  rfl
theorem left0 (cs : List Ch) (is : List Nat) (h : is.Perm (namedIx S5.fs)) : leftSt S5 0 cs is = ⟨cs, 0, false, [], [⟨sa, [120, 121, 122], [120, 121, 122], []⟩], [], 0⟩ := by
  rw [named5, List.perm_singleton] at h
  subst h
  unfold leftSt
  simp only [List.map_cons, List.map_nil]
  rw [leftF_at (f := f5) rfl, ords]
  rfl
theorem files2 (cs : List Ch) (b : List UInt8) : filesOf ⟨cs, 0, false, [], [⟨sa, b, b, []⟩], [], 0⟩ = [(sa, M.strOf b)] := by
  unfold filesOf sortedNames
  have e : names ⟨cs, 0, false, [], [⟨sa, b, b, []⟩], [], 0⟩ = [[97]] := rfl
  rw [e, List.mergeSort_singleton]
  rfl
end Ex
/-- An operation whose outcome is known. -/
theorem Ops.known {own : Own} {w : World} {p : Nat} {s : St} {d : Dd} {act : St → Ch → Dd → St × Dd} {v : Dd → Value} {e : Ending} {w' : World} (h : Ops own w p s d act v e w') {s' : St} {d' : Dd} (hp : perform s d act = (s', d')) :
    ∃ own' g', e = .returned (v d') ∧ Rep own' w' p s' g' ∧ Fr own w own' w' noE := by
  obtain ⟨own', g', h1, h2, h3⟩ := h
  rw [hp] at h1 h2
  exact ⟨own', g', h1, h2, h3⟩
end Go.Proofs.YtpkhghjmelgpeaaGreat.Wk
