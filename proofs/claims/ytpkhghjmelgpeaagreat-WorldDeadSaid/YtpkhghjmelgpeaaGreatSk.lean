/- The library's contracts at this program: a map's keys, sorted; a slice of integers, sorted. -/
import Derived.Test.YtpkhghjmelgpeaaGreatLp
import Derived.Test.YtpkhghjmelgpeaaGreatW23
set_option linter.unusedVariables false
namespace Go.Proofs.YtpkhghjmelgpeaaGreat.Wk
open Go.ChangeShapes Go.WideShapes Go.ChangeAt Go.RowKit M Go.Maps Go.Sort Go.Shelf Go.Proofs

theorem sortsS (m : Nat) : AnyZ.SortsIn Tryz.prog YtpkhghjmelgpeaaGreat.Sk.sorted_ren Fence.wide m :=
  ⟨fun blk off cap ss W hH hblk hsz => callsIn_wide.2 (AnyM.slices_Sort_string YtpkhghjmelgpeaaGreat.Sk.sortS blk off cap ss W hH hblk hsz),
   fun p cap W => callsIn_wide.2 (AnyM.slices_Sort_string_none YtpkhghjmelgpeaaGreat.Sk.sortS p cap W)⟩

theorem keys_any (mb : Option Nat) (W : World) : Calls Tryz.prog 74 #[.map mb] W fun e w' => e = .returned (.func (.func 129) #[] #[.pointer (some ⟨W.heap.size, 0, none⟩)]) ∧ w' = W.alloc (.cells #[.map mb] 87) :=
  callsIn_wide.1 (AnyZ.keys_in YtpkhghjmelgpeaaGreat.Sk.keys Fence.wide 5 trivial rfl mb W)

def SortedE (w : World) (B : Nat) (b : Nat) (D0 : DataW Unit) (e : Ending) (w' : World) : Prop :=
  ∃ (v : Value) (ss : List (List UInt8)), e = .returned v ∧ ss.Perm (strKeys D0) ∧ w'.ownsRow B 9 1 v ss.length ((ss.mergeSort (fun x y => decide (x ≤ y))).map encStr) ∧ (v = .slice none 0 0 ↔ ss = []) ∧ Below B w w'
set_option maxHeartbeats 1000000 in
theorem sortedKeys_any (b nn : Nat) (D0 : DataW Unit) (R : Value → Option (DataW Unit × List MemPlace)) (w : World) (hown : w.ownsMap Tryz.prog 9 R b nn D0) (hmax : Maps.size D0 ≤ maxLen) (hbytes : Maps.size D0 * 16 ≤ 140737488355328) :
    Calls Tryz.prog 73 #[.func (.func 129) #[] #[.pointer (some ⟨w.heap.size, 0, none⟩)]] (w.alloc (.cells #[.map (some b)] 87)) (SortedE (w.alloc (.cells #[.map (some b)] 87)) (w.alloc (.cells #[.map (some b)] 87)).heap.size b D0) := by
  have hbl := hown.lt
  have hseq : SeqGives Fence.wide 2 Tryz.prog 129 #[.pointer (some ⟨w.heap.size, 0, none⟩)] encStr (fun ss => ss.Perm (strKeys D0)) (Maps.size D0) (w.alloc (.cells #[.map (some b)] 87)) :=
    AnyZ.keys_gives (ρ := YtpkhghjmelgpeaaGreat.Sk.keys_ren) { YtpkhghjmelgpeaaGreat.Sk.keys with } Fence.wide _ trivial rfl (by omega) w.heap.size b nn D0 _ (by simp) (by simp) (by
      obtain ⟨es, clock, hb, Ft, hs, hD⟩ := hown
      exact ⟨es, clock, (Below.heap_alloc _ _ b hbl).trans hb, Ft, hs, hD⟩)
  exact callsIn_wide.1 (AnyZ.sorted_in YtpkhghjmelgpeaaGreat.Sk.sorted Fence.wide 5 trivial trivial trivial trivial rfl (by omega) (sortsS _) (enters_of Tryz.func128 (by kernel_rfl) rfl) 129 #[.pointer (some ⟨w.heap.size, 0, none⟩)] trivial (enters_of Tryz.func129 (by kernel_rfl) rfl) _ _ hmax hbytes _ hseq)
end Go.Proofs.YtpkhghjmelgpeaaGreat.Wk
