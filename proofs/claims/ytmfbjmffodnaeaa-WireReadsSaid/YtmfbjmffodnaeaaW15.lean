/- What the book's Own answers where it holds files alone that share no memory. -/
import Derived.Test.YtmfbjmffodnaeaaW14
set_option linter.unusedVariables false
namespace Go.Proofs.Ytmfbjmffodnaeaa.Wk
open Go.ChangeShapes Go.WideShapes Go.ChangeAt Go.RowKit M

set_option maxHeartbeats 1000000 in
set_option maxRecDepth 100000 in
theorem own_any (bk base : Nat) (rs : Rs) (xs : Nat → List Value) (w : World) (h : BookSt w base bk (rs.map (·.1))) (hb : base ≤ w.heap.size) (hm : rs.length ≤ 1000) (hn : ∀ i (h : i < rs.length), rs[i].2 ≤ 33554431) (hR : Rws w base rs xs) (hD : Dis rs) :
    Calls Try.prog 25 #[.pointer (some ⟨bk, 0, none⟩)] w fun e w' => e = .returned (.bool true) ∧ Below base w w' := by
  obtain ⟨V, hh, hown, hbk⟩ := h
  rw [List.length_map] at hown
  obtain ⟨A, cap, rfl, _, _⟩ := own_form hown
  have hlt := (Array.getElem?_eq_some_iff.1 hh).1
  have HO : Hid (∀ _ : Unit, Calls Try.prog 44 #[.slice A rs.length cap] w fun e w' => e = .returned (.bool true) ∧ Kp base rs w w') := Lib.hid (fun _ => ownF_1 A cap base rs xs w hb hm hn hown hR hD)
  have hfar : ∀ i (h : i < rs.length), rs[i].1.ownBlock ≠ some bk := fun i hi => own_ne (hR i hi) hh (by decide)
  have c0 : w.cell? ⟨bk, 0, none⟩ = some (.slice none 0 0) := by rw [Lib.cell_of_heap hh]; rfl
  have c1 : w.cell? ⟨bk, 1, none⟩ = some (.slice none 0 0) := by rw [Lib.cell_of_heap hh]; rfl
  have c2 : w.cell? ⟨bk, 2, none⟩ = some (.slice none 0 0) := by rw [Lib.cell_of_heap hh]; rfl
  have c3 : w.cell? ⟨bk, 3, none⟩ = some (.slice none 0 0) := by rw [Lib.cell_of_heap hh]; rfl
  have c4 : w.cell? ⟨bk, 4, none⟩ = some (.slice A rs.length cap) := by rw [Lib.cell_of_heap hh]; rfl
  have HF := Lib.hid hfar
  have HH := Lib.hid hh
  clear hR hD hn hfar hown hh
  go_enter Try.func25, Try.ntmps25
  go_wp2_with (first
    | (go_at_call 40; refine (own40 _).mono ?_; rintro e w' ⟨rfl, rfl⟩)
    | (go_at_call 41; refine (own41 _).mono ?_; rintro e w' ⟨rfl, rfl⟩)
    | (go_at_call 42; refine (own42 _).mono ?_; rintro e w' ⟨rfl, rfl⟩)
    | (go_at_call 43; refine (own43 _).mono ?_; rintro e w' ⟨rfl, rfl⟩))
  refine (HO.out ()).mono ?_
  rintro e w5 ⟨rfl, hk⟩
  have hh5 := (hk.kept bk hlt HF.out).trans HH.out
  have d5 : w5.cell? ⟨bk, 5, none⟩ = some (.slice none 0 0) := by rw [Lib.cell_of_heap hh5]; rfl
  have d6 : w5.cell? ⟨bk, 6, none⟩ = some (.slice none 0 0) := by rw [Lib.cell_of_heap hh5]; rfl
  have d7 : w5.cell? ⟨bk, 7, none⟩ = some (.slice none 0 0) := by rw [Lib.cell_of_heap hh5]; rfl
  have HB := Lib.hid hk.low
  clear hh5 hk
  go_wp2_with (first
    | (go_at_call 45; refine (own45 _).mono ?_; rintro e w' ⟨rfl, rfl⟩)
    | (go_at_call 46; refine (own46 _).mono ?_; rintro e w' ⟨rfl, rfl⟩)
    | (go_at_call 47; refine (own47 _).mono ?_; rintro e w' ⟨rfl, rfl⟩))
  go_ret
  exact ⟨rfl, HB.out⟩
end Go.Proofs.Ytmfbjmffodnaeaa.Wk
