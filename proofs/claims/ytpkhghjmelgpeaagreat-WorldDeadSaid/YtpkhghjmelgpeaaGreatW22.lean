/- begin: a world without files. -/
import Derived.Test.YtpkhghjmelgpeaaGreatW21
set_option linter.unusedVariables false
namespace Go.Proofs.YtpkhghjmelgpeaaGreat.Wk
open Go.ChangeShapes Go.WideShapes Go.ChangeAt Go.RowKit M

def start (l : List Ch) : St := ⟨l, 0, false, [], [], [], 0⟩
theorem wf_start (l : List Ch) : Wf (start l) := by
  refine ⟨?_, ?_, ?_, ?_, ?_, ?_, ?_, ?_, ?_, ?_⟩ <;> simp [start, named, live]
/-- A world of its own: nothing that was there belongs to it. -/
def Made (w : World) (s : St) (p : Nat) (own' : Own) (g : Gh) (w' : World) : Prop := Rep own' w' p s g ∧ (∀ k, k < w.heap.size → own' k = none) ∧ Below w.heap.size w w'
def Begun (w : World) (l : List Ch) (e : Ending) (w' : World) : Prop := ∃ p own' g, e = .returned (.pointer (some ⟨p, 0, none⟩)) ∧ Made w (start l) p own' g w'

theorem chflat_one (l : List Ch) : ∀ u ∈ l.flatMap chcells, u.oneCell' = true := by
  intro u hu; obtain ⟨d, _, hd⟩ := List.mem_flatMap.1 hu; simp [chcells] at hd; rcases hd with rfl | rfl | rfl <;> rfl
theorem begin_fin {w w1 : World} {l : List Ch} {v : Value} (hrow : Row w1 63 3 v l.length (l.flatMap chcells)) (hb : Below w.heap.size w w1) (hk : ∀ k, blk v = some k → w.heap.size ≤ k) :
    ∃ own' g, Made w (start l) (w1.heap.size + 2) own' g (((w1.alloc (.map #[] 0)).alloc (.map #[] 0)).alloc (.cells #[v, .int .i64 0, .bool false, .slice none 0 0, .map (some w1.heap.size), .int .i64 0, .map (some (w1.heap.size + 1)), .int .i64 0, .int .i64 0] 90)) := by
  obtain ⟨W, hW⟩ : ∃ W, W = (((w1.alloc (.map #[] 0)).alloc (.map #[] 0)).alloc (.cells #[v, .int .i64 0, .bool false, .slice none 0 0, .map (some w1.heap.size), .int .i64 0, .map (some (w1.heap.size + 1)), .int .i64 0, .int .i64 0] 90)) := ⟨_, rfl⟩
  have hWs : W.heap.size = w1.heap.size + 3 := by rw [hW]; simp
  have hWo : ∀ k, k < w1.heap.size → W.heap[k]? = w1.heap[k]? := fun k hk => by
    rw [hW, Below.heap_alloc _ _ _ (by simp; omega), Below.heap_alloc _ _ _ (by simp; omega), Below.heap_alloc _ _ _ hk]
  have m0 : W.ownsMap Tryz.prog 9 Rp w1.heap.size 0 (.map []) := by
    rw [hW]; exact ((World.ownsMap_made w1 _ _ _).alloc _).alloc _
  have m1 : W.ownsMap Tryz.prog 3 Rh (w1.heap.size + 1) 0 (.map []) := by
    have := (World.ownsMap_made (w1.alloc (.map #[] 0)) Tryz.prog 3 Rh).alloc (.cells #[v, .int .i64 0, .bool false, .slice none 0 0, .map (some w1.heap.size), .int .i64 0, .map (some (w1.heap.size + 1)), .int .i64 0, .int .i64 0] 90)
    rw [hW]; simpa using this
  have hp : W.heap[w1.heap.size + 2]? = some (.cells #[v, .int .i64 0, .bool false, .slice none 0 0, .map (some w1.heap.size), .int .i64 0, .map (some (w1.heap.size + 1)), .int .i64 0, .int .i64 0] 90 (0, 0)) := by
    have := heap_alloc_new ((w1.alloc (.map #[] 0)).alloc (.map #[] 0)) (.cells #[v, .int .i64 0, .bool false, .slice none 0 0, .map (some w1.heap.size), .int .i64 0, .map (some (w1.heap.size + 1)), .int .i64 0, .int .i64 0] 90)
    rw [hW]; simpa using this
  have hvl := hrow.lt
  have hs := hb.size
  rw [← hW]
  refine ⟨fun k => if k = w1.heap.size + 2 then some .w else if k = w1.heap.size + 1 then some .hm else if k = w1.heap.size then some .fm else if blk v = some k then some .ch else none,
    ⟨v, .slice none 0 0, w1.heap.size, w1.heap.size + 1, .map [], .map [], 0, 0, fun _ => 0, fun _ => 0⟩, ?_, ?_, ?_⟩
  · refine ⟨?_, by simp, hp, ?_, Row.nil _ _ _, by simp [lab, blk], by simp, m0, ?_, ?_, m1, ?_, ?_, ?_, wf_start l⟩
    · intro k hk'
      simp only at hk'
      split at hk'
      · omega
      · split at hk'
        · omega
        · split at hk'
          · omega
          · split at hk'
            · rename_i e; have := hvl k e; omega
            · exact absurd rfl hk'
    · rcases hrow.2 with ⟨h0, a, rfl⟩ | ⟨gb, cap, cur, rfl, hc, ⟨fz, hg, hz⟩, h1, h2, h3, h4⟩
      · exact ⟨a, 0, by rw [show (start l).ch.length = l.length from rfl, h0], by show l.length ≤ 0; omega, Nat.zero_le _, fun h => by change 0 < l.length at h; omega⟩
      · obtain ⟨c, rfl⟩ : ∃ c, cap = c + 1 := ⟨cap - 1, by omega⟩
        have hgl := hvl gb rfl
        refine ⟨_, _, rfl, h1, h2, fun _ => ⟨gb, 0, cur, fz, rfl, ?_, (hWo gb hgl).trans hg, hz, ?_, ?_⟩⟩
        · simp only
          rw [if_neg (by omega), if_neg (by omega), if_neg (by omega), if_pos (by rfl)]
        · show 0 + 3 * l.length ≤ cur.size; omega
        · show (cur.toList.drop 0).take (3 * l.length) = _
          rw [List.drop_zero, Nat.mul_comm]; exact h4
    · exact ⟨fun s hs' => ⟨rfl, rfl⟩, rfl⟩
    · simp only; rw [if_neg (by omega), if_pos trivial]
    · refine ⟨fun n hn => ?_, Nat.zero_le _⟩
      have : hdOf (start l).hs n = .closed := by unfold hdOf start; split <;> simp
      rw [this]; exact ⟨rfl, rfl⟩
    · intro i f hf; simp [start] at hf
    · intro i f hf; simp [start] at hf
  · intro k hk'
    simp only
    rw [if_neg (by omega), if_neg (by omega), if_neg (by omega), if_neg (fun e => by have := hk k e; omega)]
  · rw [hW]; exact ((hb.alloc hs _).alloc (by simp; omega) _).alloc (by simp; omega) _

set_option maxHeartbeats 1000000 in
set_option maxRecDepth 100000 in
theorem begin_any (v : Value) (l : List Ch) (w : World) (h : Rd w 3 v l.length (l.flatMap chcells)) (hl : l.length ≤ 1099511627776) : Calls Tryz.prog 34 #[v] w (Begun w l) := by
  have HC := Lib.hid (cloneCh_any v l.length _ w h (chflat_one l) (by omega))
  obtain ⟨a, c, rfl, _⟩ := h
  clear hl
  have hmm := @run_makeMap Tryz.prog
  go_enter Tryz.func34, Tryz.ntmps34
  go_wp2_with fail
  refine HC.out.mono ?_
  rintro e w1 ⟨v', rfl, h1, h2, h3⟩
  obtain ⟨own', g, hM⟩ := begin_fin h1 h2 h3
  obtain ⟨a1, c1, rfl, _⟩ := h1.cells
  have HM := Lib.hid hM
  clear h1 h2 h3 hM
  go_wp2
  go_ret
  exact ⟨_, own', g, rfl, HM.out⟩
end Go.Proofs.YtpkhghjmelgpeaaGreat.Wk
