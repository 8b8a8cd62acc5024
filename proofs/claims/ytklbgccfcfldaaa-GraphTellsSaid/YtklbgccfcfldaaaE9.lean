/- The roots, one after another. -/
import Derived.Test.YtklbgccfcfldaaaE8
set_option linter.unusedVariables false
namespace Go.Proofs.Ytklbgccfcfldaaa.Wk
open Go.ChangeShapes Go.WideShapes Go.ChangeAt Go.RowKit Go.Shelf M
attribute [local go_sem] Oper.semAt_some

def rowV (p : Nat) (g : Gh) : Nat → Value
  | 0 => .slice (some ⟨p, 29, none⟩) 64 64
  | 1 => .slice (some ⟨p, 93, none⟩) 4096 4096
  | 2 => g.kv
  | _ => g.qv
def rowL (s : Hp) : Nat → List Int
  | 0 => s.spec
  | 1 => s.cls
  | 2 => s.stack
  | _ => s.queue
def rootsV (p : Nat) (g : Gh) : Value := .agg #[.slice (some ⟨p, 29, none⟩) 64 64, .slice (some ⟨p, 93, none⟩) 4096 4096, g.kv, g.qv]

theorem cell_of_heap {A B : World} {p : Nat} (h : B.heap[p]? = A.heap[p]?) (o : Nat) : B.cell? ⟨p, o, none⟩ = A.cell? ⟨p, o, none⟩ := by simp [World.cell?, h]
theorem box4w {X : World} {b : Nat} {e : TypeId} {a0 a1 a2 a3 : Value} (h : X.heap[b]? = some (.cells #[a0, a1, a2, a3] e (0, 0))) (v0 v1 v2 v3 : Value) :
    (((((X.setCell ⟨b, 0, none⟩ v0).setCell ⟨b, 1, none⟩ v1).setCell ⟨b, 2, none⟩ v2).setCell ⟨b, 3, none⟩ v3).drew).heap[b]? = some (.cells #[v0, v1, v2, v3] e (0, 0)) := by
  show (((((X.setCell ⟨b, 0, none⟩ v0).setCell ⟨b, 1, none⟩ v1).setCell ⟨b, 2, none⟩ v2).setCell ⟨b, 3, none⟩ v3)).heap[b]? = _
  rw [blk_set (blk_set (blk_set (blk_set h 0 v0) 1 v1) 2 v2) 3 v3]; simp
set_option maxHeartbeats 4000000 in
set_option maxRecDepth 100000 in
theorem roots_any (own : Own) (w : World) (p : Nat) (s : Hp) (g : Gh) (h : Rep own w p s g) :
    Calls Try.prog 60 #[.pointer (some ⟨p, 0, none⟩)] w fun e w' => e = .returned (rootsV p g) ∧ Below w.heap.size w w' := by
  obtain ⟨X, hX⟩ : ∃ X, X = w.alloc (.cells #[.slice none 0 0, .slice none 0 0, .slice none 0 0, .slice none 0 0] 129) := ⟨_, rfl⟩
  have hB : Below w.heap.size w X := by rw [hX]; exact (Below.refl _ _).alloc (Nat.le_refl _) _
  have hXb : X.heap[w.heap.size]? = some (.cells #[.slice none 0 0, .slice none 0 0, .slice none 0 0, .slice none 0 0] 129 (0, 0)) := by rw [hX]; exact heap_alloc_new w _
  have hRX := h.below hB (Nat.le_refl _)
  have k1 := hRX.stk
  have k2 := hRX.que
  have hpl := blk_lt hRX.hcell
  have b0 := cell_blk hXb 0
  have b1 := cell_blk hXb 1
  have b2 := cell_blk hXb 2
  have b3 := cell_blk hXb 3
  have bf := frozen_blk hXb
  obtain ⟨ka, kc, ke, -⟩ := hRX.krow.cells
  obtain ⟨qa, qc, qe, -⟩ := hRX.qrow.cells
  unfold rootsV
  rw [ke] at k1 ⊢
  rw [qe] at k2 ⊢
  have HB := Lib.hid hB
  have HXb := Lib.hid hXb
  have hbl := blk_lt hXb
  have hpw := blk_lt h.hcell
  clear h hRX hB hXb ke qe
  go_enter Try.func60, Try.ntmps60
  go_wp2
  rw [← hX]
  have HX := Lib.hid hX
  clear hX
  have hst : ∀ v0 v1 v2 v3, (((((X.setCell ⟨w.heap.size, 0, none⟩ v0).setCell ⟨w.heap.size, 1, none⟩ v1).setCell ⟨w.heap.size, 2, none⟩ v2).setCell ⟨w.heap.size, 3, none⟩ v3).drew).cell? ⟨p, 4189, none⟩ = some (.slice ka s.stack.length kc) ∧ (((((X.setCell ⟨w.heap.size, 0, none⟩ v0).setCell ⟨w.heap.size, 1, none⟩ v1).setCell ⟨w.heap.size, 2, none⟩ v2).setCell ⟨w.heap.size, 3, none⟩ v3).drew).cell? ⟨p, 4190, none⟩ = some (.slice qa s.queue.length qc) ∧ p < (((((X.setCell ⟨w.heap.size, 0, none⟩ v0).setCell ⟨w.heap.size, 1, none⟩ v1).setCell ⟨w.heap.size, 2, none⟩ v2).setCell ⟨w.heap.size, 3, none⟩ v3).drew).heap.size := fun v0 v1 v2 v3 => by
    have hne : p ≠ w.heap.size := by omega
    have e : ∀ o, (((((X.setCell ⟨w.heap.size, 0, none⟩ v0).setCell ⟨w.heap.size, 1, none⟩ v1).setCell ⟨w.heap.size, 2, none⟩ v2).setCell ⟨w.heap.size, 3, none⟩ v3).drew).cell? ⟨p, o, none⟩ = X.cell? ⟨p, o, none⟩ := fun o => by
      refine cell_of_heap ?_ o
      show (((((X.setCell ⟨w.heap.size, 0, none⟩ v0).setCell ⟨w.heap.size, 1, none⟩ v1).setCell ⟨w.heap.size, 2, none⟩ v2).setCell ⟨w.heap.size, 3, none⟩ v3)).heap[p]? = _
      rw [blk_set_other _ _ _ _ _ hne, blk_set_other _ _ _ _ _ hne, blk_set_other _ _ _ _ _ hne, blk_set_other _ _ _ _ _ hne]
    refine ⟨by rw [e]; exact k1, by rw [e]; exact k2, ?_⟩
    show p < (((((X.setCell ⟨w.heap.size, 0, none⟩ v0).setCell ⟨w.heap.size, 1, none⟩ v1).setCell ⟨w.heap.size, 2, none⟩ v2).setCell ⟨w.heap.size, 3, none⟩ v3)).heap.size
    rw [size_setc, size_setc, size_setc, size_setc]; exact hpl
  have HST := Lib.hid hst
  clear hst
  have KV := Lib.hid (And.intro k1 (And.intro k2 (And.intro hpl HXb.out)))
  go_region_held3 (fun Y => Y.cell? ⟨p, 4189, none⟩ = some (.slice ka s.stack.length kc) ∧ Y.cell? ⟨p, 4190, none⟩ = some (.slice qa s.queue.length qc) ∧ p < Y.heap.size)
    (first
      | exact ⟨KV.out.1, KV.out.2.1, KV.out.2.2.1⟩
      | exact HST.out _ _ _ _)
    (first | fail)
  have HW := box4w HXb.out (.slice (some ⟨p, 29, none⟩) 64 64) (.slice (some ⟨p, 93, none⟩) 4096 4096) (.slice ka s.stack.length kc) (.slice qa s.queue.length qc)
  have y0 := cell_blk HW 0
  have y1 := cell_blk HW 1
  have y2 := cell_blk HW 2
  have y3 := cell_blk HW 3
  go_wp2
  have HB2 := ((((HB.out.setCell (p := ⟨w.heap.size, 0, none⟩) (Nat.le_refl _) (.slice (some ⟨p, 29, none⟩) 64 64)).setCell (p := ⟨w.heap.size, 1, none⟩) (Nat.le_refl _) (.slice (some ⟨p, 93, none⟩) 4096 4096)).setCell (p := ⟨w.heap.size, 2, none⟩) (Nat.le_refl _) (.slice ka s.stack.length kc)).setCell (p := ⟨w.heap.size, 3, none⟩) (Nat.le_refl _) (.slice qa s.queue.length qc)).drew
  generalize ((((X.setCell ⟨w.heap.size, 0, none⟩ (.slice (some ⟨p, 29, none⟩) 64 64)).setCell ⟨w.heap.size, 1, none⟩ (.slice (some ⟨p, 93, none⟩) 4096 4096)).setCell ⟨w.heap.size, 2, none⟩ (.slice ka s.stack.length kc)).setCell ⟨w.heap.size, 3, none⟩ (.slice qa s.queue.length qc)).drew = Y at y0 y1 y2 y3 HB2 ⊢
  exact bodyPost_ret (v := .agg #[.slice (some ⟨p, 29, none⟩) 64 64, .slice (some ⟨p, 93, none⟩) 4096 4096, .slice ka s.stack.length kc, .slice qa s.queue.length qc]) (by simp [results, Try.results60, go_sem, y0, y1, y2, y3]) rfl ⟨rfl, HB2⟩
end Go.Proofs.Ytklbgccfcfldaaa.Wk
