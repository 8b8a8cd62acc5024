/- What settled, fault, chosen, place, piece answer. -/
import Derived.Test.YtpkhghjmelgpeaaGreatW4
import Derived.Laws.IdiomStrings
import Derived.Deep.QuietTactic
import Derived.BigQuiet
set_option linter.unusedVariables false
namespace Go.Proofs.YtpkhghjmelgpeaaGreat.Wk
open Go.ChangeShapes Go.WideShapes Go.ChangeAt Go.RowKit M

def Settled (w : World) (bv : Value) (l : List UInt8) (e : Ending) (w' : World) : Prop :=
  ∃ q sv, e = .returned (.pointer (some ⟨q, 0, none⟩)) ∧ w'.heap[q]? = some (.cells #[bv, sv, .slice none 0 0] 121 (0, 0)) ∧ w.heap.size ≤ q ∧ Row w' 5 1 sv l.length (bcells l) ∧
    (∀ k, blk sv = some k → w.heap.size ≤ k ∧ k ≠ q) ∧ Below w.heap.size w w'
theorem bcells_one (l : List UInt8) : ∀ u ∈ bcells l, u.oneCell' = true := by
  intro u hu; obtain ⟨b, _, rfl⟩ := List.mem_map.1 hu; rfl

set_option maxHeartbeats 1000000 in
set_option maxRecDepth 100000 in
theorem settled_any (bv : Value) (l : List UInt8) (w : World) (h : Row w 5 1 bv l.length (bcells l)) (hl : l.length ≤ 140737488355328) :
    Calls Tryz.prog 36 #[bv] w (Settled w bv l) := by
  have hc := Lib.hid (cloneB_any bv l.length (bcells l) w h.rd (bcells_one l) (by omega))
  clear hl
  obtain ⟨a, c, rfl, _⟩ := h.cells
  go_enter Tryz.func36, Tryz.ntmps36
  go_wp2_with (go_at_call 100; refine hc.out.mono ?_; rintro e w1 ⟨sv, rfl, hs, hb, hk⟩; obtain ⟨a1, c1, rfl, _⟩ := hs.cells)
  have HS := Lib.hid hs
  have HB := Lib.hid hb
  have HK := Lib.hid hk
  clear hs hb hk hc
  go_ret
  refine ⟨_, _, rfl, heap_alloc_new w1 _, HB.out.size, HS.out.kept fun k hk => Below.heap_alloc w1 _ k (HS.out.lt k hk), fun k hk => ⟨HK.out k hk, by have := HS.out.lt k hk; omega⟩, HB.out.alloc HB.out.size _⟩

set_option maxHeartbeats 1000000 in
theorem fault_any (b : Nat) (s : Bool) (w : World) (h : w.cell? ⟨b, 0, none⟩ = some (.bool s)) :
    Calls Tryz.prog 130 #[.pointer (some ⟨b, 0, none⟩)] w fun e w' => e = .returned (.int .i64 (if s then 31 else 0)) ∧ w = w' := by
  cases s
  all_goals
    go_enter Tryz.func130, Tryz.ntmps130
    go_wp2
    go_ret
    exact ⟨rfl, rfl⟩

set_option maxHeartbeats 1000000 in
theorem chosen_any (k n q : Int) (t : ByteArray) (w : World) :
    Calls Tryz.prog 115 #[.agg #[.int .u8 k, .int .i64 n, .string t], .int .u8 q] w fun e w' => e = .returned (.int .i64 (chosen ⟨k, n, t⟩ q)) ∧ Below w.heap.size w w' := by
  have hB : Below w.heap.size w (w.alloc (.cells #[.int .u8 k, .int .i64 n, .string t] 63)) := (Below.refl _ _).alloc (Nat.le_refl _) _
  have HB := Lib.hid hB
  clear hB
  by_cases hk : k = q
  · subst hk
    by_cases h1 : n < 30
    · have hc : chosen ⟨k, n, t⟩ k = 0 := by unfold M.chosen; rw [if_pos (by simp; omega)]
      rw [hc]; clear hc
      go_enter Tryz.func115, Tryz.ntmps115
      go_wp2
      go_ret
      exact ⟨rfl, HB.out⟩
    · by_cases h2 : 35 < n
      · have hc : chosen ⟨k, n, t⟩ k = 0 := by unfold M.chosen; rw [if_pos (by simp; omega)]
        rw [hc]; clear hc
        go_enter Tryz.func115, Tryz.ntmps115
        go_wp2
        go_ret
        exact ⟨rfl, HB.out⟩
      · have hc : chosen ⟨k, n, t⟩ k = n := by unfold M.chosen; rw [if_neg (by simp; omega)]
        rw [hc]; clear hc
        go_enter Tryz.func115, Tryz.ntmps115
        go_wp2
        go_ret
        exact ⟨rfl, HB.out⟩
  · have hc : chosen ⟨k, n, t⟩ q = 0 := by unfold M.chosen; rw [if_pos (.inl hk)]
    rw [hc]; clear hc
    have hb : (k == q) = false := by simpa using hk
    have hb2 : (k != q) = true := by simpa using hk
    go_enter Tryz.func115, Tryz.ntmps115
    go_wp2
    go_ret
    exact ⟨rfl, HB.out⟩

theorem Rd.lt {w : World} {z : Nat} {v : Value} {n : Nat} {xs : List Value} (h : Rd w z v n xs) : xs.length = n * z := let ⟨_, _, _, h, _⟩ := h; h
theorem conv_rd (w : World) (a : Option Addr) (l : List UInt8) (n c : Nat) (hn : n = l.length) (h : ∀ j u, (bcells l)[j]? = some u → ∃ ad, a = some ad ∧ w.cell? (ad.add j) = some u) :
    (convert 92 9 (.slice a n c)).run Tryz.prog w = .ok (.string (strOf l)) w := by
  subst hn
  cases a with
  | none =>
    have : l = [] := by
      cases l with
      | nil => rfl
      | cons y r => obtain ⟨_, ha, _⟩ := h 0 _ rfl; cases ha
    subst this
    have := run_convert_bytes_nil (P := Tryz.prog) w 92 5 Tryz.underlying92 Tryz.underlying5 0 c 9 Tryz.underlying9
    exact this
  | some ad =>
    exact run_convert_bytes_back w 92 9 5 ad c l Tryz.underlying92 Tryz.underlying5 Tryz.underlying9 (fun j hj => by
      obtain ⟨_, e, hc⟩ := h j (.int .u8 l[j].toNat) (by simp [bcells, List.getElem?_eq_getElem hj])
      cases e; exact hc)

theorem Row.sub {w : World} {e : TypeId} {a : Option Addr} {l : List UInt8} {c : Nat} (h : Row w e 1 (.slice a l.length c) l.length (bcells l)) (p n : Nat) (hp : p ≤ l.length) (A : Option Addr) (hA : A = a ∨ A = a.map (·.add p)) (hA2 : p < c → A = a.map (·.add p)) :
    ∀ j u, (bcells ((l.drop p).take n))[j]? = some u → ∃ ad, A = some ad ∧ w.cell? (ad.add j) = some u := by
  intro j u hu
  obtain ⟨a', c', e1, hc0, hq⟩ := h.cells
  cases e1
  have hj : j < ((l.drop p).take n).length := by have := (List.getElem?_eq_some_iff.1 hu).1; rwa [bcells_len] at this
  have hpj : p + j < l.length := by simp at hj; omega
  have hcc : l.length ≤ c := by
    rcases h.2 with ⟨h0, a', hv⟩ | ⟨g, cap, cur, hv, _, _, hn, _⟩
    · omega
    · cases hv; exact hn
  have hu2 : (bcells l)[p + j]? = some u := by
    rw [← hu]
    simp only [bcells, List.getElem?_map, List.getElem?_take, List.getElem?_drop]
    simp at hj
    rw [if_pos (by omega)]
  obtain ⟨g, rfl, hc⟩ := hq _ u hu2
  rw [hA2 (by omega)]
  refine ⟨_, rfl, ?_⟩
  show w.cell? (((⟨g, 0, none⟩ : Addr).add p).add j) = _
  rw [add_0]
  have : (⟨g, p, none⟩ : Addr).add j = ⟨g, p + j, none⟩ := by unfold Addr.add; split <;> simp_all
  rw [this]; exact hc

set_option maxHeartbeats 2000000 in
set_option maxRecDepth 100000 in
theorem piece_any (b : Nat) (p n : Nat) (a : Option Addr) (c : Nat) (l : List UInt8) (w : World) (h : Row w 5 1 (.slice a l.length c) l.length (bcells l)) (hb : w.cell? ⟨b, 0, none⟩ = some (.slice a l.length c)) (hp : p ≤ 4194304) (hl : l.length ≤ 4194304) (hn : n ≤ 9223372036854775807) :
    Calls Tryz.prog 95 #[.pointer (some ⟨b, 0, none⟩), .int .i64 p, .int .i64 n] w fun e w' => e = .returned (.string (strOf ((l.drop p).take n))) ∧ w' = w.drew := by
  have hc : l.length ≤ c := by
    rcases h.2 with ⟨h0, a', hv⟩ | ⟨g, cap, cur, hv, _, _, hn, _⟩
    · omega
    · cases hv; exact hn
  have hdl : ((l.drop p).take n).length = min n (l.length - p) := by simp
  have HR : Hid (∀ (w' : World) (A : Option Addr) (q m k : Nat), Below w.heap.size w w' → q = min p l.length → (if c = q then a else Option.map (fun x => x.add q) a) = A → m = min n (l.length - q) → (convert 92 9 (.slice A m k)).run Tryz.prog w' = .ok (.string (strOf ((l.drop p).take n))) w') :=
    Lib.hid (fun w' A q m k hb' hq h1 h3 => by
      have hrow : Row w' 5 1 (.slice a l.length c) l.length (bcells l) := h.kept fun k hk => hb'.block k (h.lt k hk)
      by_cases hpl : p ≤ l.length
      · obtain rfl : q = p := by omega
        refine conv_rd w' A _ m k (by rw [h3, hdl]) (hrow.sub q n hpl A ?_ ?_)
        · rw [← h1]; split
          · exact .inl rfl
          · exact .inr rfl
        · intro hlt; rw [← h1, if_neg (by omega)]
      · have e0 : (l.drop p).take n = [] := by rw [List.drop_eq_nil_of_le (by omega)]; simp
        rw [e0]
        exact conv_rd w' A [] m k (by rw [h3]; simp; omega) (by simp [bcells]))
  clear h hdl
  obtain ⟨q, hq⟩ : ∃ q, q = min p l.length := ⟨_, rfl⟩
  have hq1 : min (p : Int) (l.length : Int) = (q : Int) := by omega
  have HQ := Lib.hid hq
  have hq2 : (q : Int) ≤ l.length := by omega
  have hq3 : (q : Int) ≤ c := by omega
  clear hq
  go_enter Tryz.func95, Tryz.ntmps95
  go_wp2
  go_region
  all_goals
    clear hq1
    have hq4 : q ≤ l.length := by omega
    obtain ⟨m, hm⟩ : ∃ m, m = min n (l.length - q) := ⟨_, rfl⟩
    have hm1 : min (n : Int) ((l.length - q : Nat) : Int) = (m : Int) := by omega
    have hm2 : (m : Int) ≤ ((c - q : Nat) : Int) := by omega
    have hm3 : m ≤ c - q := by omega
    generalize hA : (if c = q then a else Option.map (fun x => x.add q) a) = A
    have HC := fun k => HR.out w.drew A q m k (Below.refl _ _).drew HQ.out hA hm
    have HM := Lib.hid hm
    have HAA := Lib.hid hA
    clear hm hA
    go_wp2
    go_ret
    exact ⟨rfl, rfl⟩
end Go.Proofs.YtpkhghjmelgpeaaGreat.Wk
