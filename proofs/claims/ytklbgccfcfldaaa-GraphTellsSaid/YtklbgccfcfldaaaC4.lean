/- claim: the words of a new object are taken from a space that is filled from its beginning. -/
import Derived.Test.YtklbgccfcfldaaaC3
set_option linter.unusedVariables false
namespace Go.Proofs.Ytklbgccfcfldaaa.Wk
open Go.ChangeShapes Go.WideShapes Go.ChangeAt Go.RowKit M

/-- A box of one's own is laid: nothing of the heap. -/
theorem fr_alloc {own : Own} {p : Nat} (w : World) (o : Obj) : Fr p own w own (w.alloc o) noE := Fr.of_below ((Below.refl _ _).alloc (Nat.le_refl _) _) (Nat.le_refl _) _

theorem Rep.drewN {own : Own} {w : World} {p : Nat} {s : Hp} {g : Gh} (h : Rep own w p s g) (n : Nat) : Rep own (w.drewN n) p s g := h.below (Joins.below_draws _ _ n) (Nat.le_refl _)
theorem Fr.drewN {own own' : Own} {w X : World} {p : Nat} {ex : Nat → Prop} (h : Fr p own w own' X ex) (n : Nat) : Fr p own w own' (X.drewN n) ex := h.trans (Fr.of_below (Joins.below_draws _ _ n) (Nat.le_refl _) _)

set_option maxHeartbeats 2000000 in
set_option maxRecDepth 100000 in
theorem claim_any (own : Own) (w : World) (p : Nat) (s : Hp) (g : Gh) (h : Rep own w p s g) (hw : Wf s) (i : Nat) (hi : 1 ≤ i) (hi4 : i ≤ 4) (c f sp hs a : Int) (k : Nat) (m n : Bool) (hk : k ≤ 65536) :
    Calls Try.prog 44 #[.pointer (some ⟨p, 0, none⟩), .int .u8 i, hdV c f sp hs a k m n] w fun e w' =>
      ((s.ar i).t + 2 + k ≤ (s.ar i).e → e = .returned (.tuple #[.int .i64 (s.ar i).t, .int .i64 0]) ∧ Rep own w' p (topS s i ((s.ar i).t + 2 + k)) g ∧ Fr p own w own w' noE) ∧
      ((s.ar i).e < (s.ar i).t + 2 + k → e = .returned (.tuple #[.int .i64 0, .int .i64 41]) ∧ Rep own w' p s g ∧ Fr p own w own w' noE) := by
  have hn := h.w0.n
  have har := hw.ar i hi (by omega)
  obtain ⟨W, hW⟩ : ∃ W, W = w.alloc (.cells #[.int .i64 c, .int .u8 f, .int .i64 sp, .int .i64 hs, .int .i64 a, .int .i64 k, .bool m, .bool n] 78) := ⟨_, rfl⟩
  have hB : Below w.heap.size w W := by rw [hW]; exact (Below.refl _ _).alloc (Nat.le_refl _) _
  have HR := Lib.hid (fun X (b : Below W.heap.size W X) => (h.below hB (Nat.le_refl _)).below b (Nat.le_refl _))
  have HF := Lib.hid (fun X (b : Below W.heap.size W X) => (Fr.of_below (p := p) (own := own) (hB.trans (b.mono hB.size)) (Nat.le_refl _) noE))
  obtain ⟨t, ht⟩ : ∃ t, (s.ar i).t = t := ⟨_, rfl⟩
  obtain ⟨e, he⟩ : ∃ e, (s.ar i).e = e := ⟨_, rfl⟩
  rw [ht, he] at har
  have HCT := Lib.hid (fun X (b : Below W.heap.size W X) => (HR.out X b).at_ i (by omega))
  have HCE := Lib.hid (fun X (b : Below W.heap.size W X) => (HR.out X b).ae i (by omega))
  have HFZ := Lib.hid (fun X (b : Below W.heap.size W X) => (HR.out X b).free (2 + i * 4 + 1))
  rw [ht] at HCT ⊢
  rw [he] at HCE ⊢
  clear h hw
  have t5 : ((i : Int) == 5) = false := by simp; omega
  have i1 : (i : Int) < 6 := by omega
  have i2 : i < 6 := by omega
  by_cases hfit : t + 2 + k ≤ e
  · have j1 : ¬ ((e : Int) - (t : Int) < 2 + (k : Int)) := by omega
    go_enter Try.func44, Try.ntmps44
    go_wp2_with (go_at_call 67; rw [← hW]; refine (sizeOf_any _ _ _ _ _ _ _ _ _ (by omega) (by omega)).mono ?_; rintro e w1 ⟨rfl, b1⟩; have B1 := Lib.hid b1; clear b1 hW; have ct := HCT.out _ B1.out; have ce := HCE.out _ B1.out; have fz := HFZ.out _ B1.out)
    go_quiet (fail)
    go_wp2
    go_ret2
    refine ⟨fun _ => ?_, fun q => by omega⟩
    obtain ⟨r2, f2⟩ := (HR.out _ B1.out).setTop i (t + 2 + k) hi (by omega)
    have ev : (Value.int .i64 ((t : Int) + (2 + (k : Int)))) = Value.int .i64 ((t + 2 + k : Nat) : Int) := by congr 1; omega
    rw [ev]
    exact ⟨rfl, r2.drewN _, ((HF.out _ B1.out).trans f2).drewN _⟩
  · have j1 : (e : Int) - (t : Int) < 2 + (k : Int) := by omega
    go_enter Try.func44, Try.ntmps44
    go_wp2_with (go_at_call 67; rw [← hW]; refine (sizeOf_any _ _ _ _ _ _ _ _ _ (by omega) (by omega)).mono ?_; rintro e w1 ⟨rfl, b1⟩; have B1 := Lib.hid b1; clear b1 hW; have ct := HCT.out _ B1.out; have ce := HCE.out _ B1.out; have fz := HFZ.out _ B1.out)
    go_quiet (fail)
    go_wp2
    go_ret2
    exact ⟨fun q => by omega, fun _ => ⟨rfl, (HR.out _ B1.out).drewN _, (HF.out _ B1.out).drewN _⟩⟩
end Go.Proofs.Ytklbgccfcfldaaa.Wk
