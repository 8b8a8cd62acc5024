/- Facts on rows of the call's own that are appended to: what an append onto one leaves of it and of the others. -/
import Derived.Below
import Derived.Laws.AppendOwn
import Derived.RegionTactic
set_option linter.unusedVariables false
namespace Go.Proofs.Ytmfbjmffodnaeaa.Wk
open Go.RowKit

section
variable {P : Program}
/-- An append onto a row of the call's own: in place, the same row one longer; or in a new row, and nothing old has changed. -/
theorem run_append_stay (w : World) (base : Nat) (t ty e : TypeId) (i : TypeInfo) (z : Value) (size bytes : Nat) (ht : P.underlying t = some (.slice e)) (hi : P.info? e = some i) (hz : i.zero = some z)
    (hsize : i.size = size) (hby : i.bytes = bytes) (hzs : z.cells.size = size) (hsz : 0 < size)
    (v : Value) (n : Nat) (xs : List Value) (hown : w.ownsRow base e size v n xs)
    (a : Addr) (m c : Nat) (news : List Value) (hl : news.length = m * size) (hnews : ∀ j u, news[j]? = some u → w.cell? (a.add j) = some u) (h1 : ∀ u ∈ news, u.oneCell' = true)
    (h63 : n + m ≤ maxLen) (hbytes : (n + m) * bytes ≤ 140737488355328) (hbase : base ≤ w.heap.size) (hm : 0 < m) :
    ∃ v' w', (Builtin.append_ #[t, t] ty #[v, .slice (some a) m c]).run P w = .ok v' w' ∧ w'.ownsRow base e size v' (n + m) (xs ++ news) ∧ w.grownBy w' v.ownBlock ∧
      ((∃ g cap, v = .slice (some ⟨g, 0, none⟩) n cap ∧ v' = .slice (some ⟨g, 0, none⟩) (n + m) cap) ∨ (∃ cap, v' = .slice (some ⟨w.heap.size, 0, none⟩) (n + m) cap ∧ w.grownBy w' none)) := by
  obtain ⟨v', w', hr, h2, h3, _⟩ := run_append_own (P := P) w base t ty e i z size bytes ht hi hz hsize hby hzs hsz v n xs hown a m c news hl hnews h1 h63 hbytes hbase
  refine ⟨v', w', hr, h2, h3, ?_⟩
  subst hsize hby
  have hsmall : n + m ≤ 9223372036854775807 := by simp only [maxLen] at h63; omega
  have hnew : ∀ o, w.grownBy (w.drew.alloc o) none := fun o => ⟨rfl, rfl, rfl, by simp, fun k hk _ => heap_alloc_old w.drew _ k hk⟩
  rcases hown.2 with ⟨rfl, rfl⟩ | ⟨g, cap, cur, rfl, hbg, hg, hnc, hcm, hcs, htake⟩
  · have hr2 := run_append_nil (P := P) w t ty e i z ht hi hz a m c news hl hnews hm (by omega) (by have hb := hbytes; simp only [Nat.zero_add] at hb; omega)
    rw [hr] at hr2
    injection hr2 with e1 e2
    exact .inr ⟨_, by rw [e1, Nat.zero_add], by rw [e2]; exact hnew _⟩
  · by_cases hroom : n + m ≤ cap
    · have hfit : n * i.size + news.length ≤ cur.size := by rw [hl, hcs, ← Nat.add_mul]; exact Nat.mul_le_mul_right _ hroom
      have hr2 := run_append_room (P := P) w t ty e i ht hi g n cap cur hg a m c news hl hnews h1 hroom hfit
      rw [hr] at hr2
      injection hr2 with e1 e2
      exact .inl ⟨g, cap, rfl, e1⟩
    · have holds : ∀ j u, xs[j]? = some u → w.cell? ((⟨g, 0, none⟩ : Addr).add j) = some u := hown.cells (g := g) rfl
      have hr2 := run_append_grow (P := P) w t ty e i z ht hi hz ⟨g, 0, none⟩ n cap xs hown.1 holds a m c news hl hnews (by omega) (by omega) (growslice_fits (by omega) hbytes)
      rw [hr] at hr2
      injection hr2 with e1 e2
      exact .inr ⟨_, e1, by rw [e2]; exact hnew _⟩

/-- What an append onto a row leaves. -/
def Stay (w w' : World) (v v' : Value) (n m : Nat) : Prop :=
  (∃ g cap, v = .slice (some ⟨g, 0, none⟩) n cap ∧ v' = .slice (some ⟨g, 0, none⟩) (n + m) cap) ∨ (∃ cap, v' = .slice (some ⟨w.heap.size, 0, none⟩) (n + m) cap ∧ w.grownBy w' none)

theorem wpList_append_stay {w : World} {ops : Array Oper} {rest : List Oper} {o : Oper} {a : Act} {Q : Exit → Act → World → Prop} (hgd : o.guard = none) (s x : Operand) (t : TypeId)
    (ho : o.op = .call { callee := .builtin .append, args := #[s, x], argTypes := #[t, t] })
    (base : Nat) (e : TypeId) (i : TypeInfo) (z : Value) (size bytes : Nat) (ht : P.underlying t = some (.slice e)) (hi : P.info? e = some i) (hz : i.zero = some z)
    (hsize : i.size = size) (hby : i.bytes = bytes) (hzs : z.cells.size = size) (hsz : 0 < size)
    (v : Value) (n : Nat) (xs : List Value) (hs : a.eval s = v) (hown : w.ownsRow base e size v n xs)
    (ad : Addr) (m c : Nat) (news : List Value) (hx : a.eval x = .slice (some ad) m c) (hl : news.length = m * size) (hnews : ∀ j u, news[j]? = some u → w.cell? (ad.add j) = some u) (h1 : ∀ u ∈ news, u.oneCell' = true)
    (h63 : n + m ≤ maxLen) (hbytes : (n + m) * bytes ≤ 140737488355328) (hbase : base ≤ w.heap.size) (hm : 0 < m)
    (h : ∀ v' w', w'.ownsRow base e size v' (n + m) (xs ++ news) → w.grownBy w' v.ownBlock → Stay w w' v v' n m → wpList P ops Q rest (a.put o.dst v') w') : wpList P ops Q (o :: rest) a w := by
  refine wpList_plain hgd fun K hK => ?_
  obtain ⟨v', w', hr, h2, h3, h4⟩ := run_append_stay (P := P) w base t o.type e i z size bytes ht hi hz hsize hby hzs hsz v n xs hown ad m c news hl hnews h1 h63 hbytes hbase hm
  unfold Oper.wp execOp
  simp only [ho, resolve, invoke, builtin, Sem.run_bind, Sem.run_pure, Result.andThen_ok, List.map_toArray, List.map_cons, List.map_nil, hs, hx, hr]
  exact hK _ _ (h v' w' h2 h3 h4)
end

section
variable {w w' w1 : World} {base size n m : Nat} {e : TypeId} {v x : Value} {xs ys : List Value}
/-- A row is still owned at its shorter length. -/
theorem own_shorter {A : Option Addr} {cap q : Nat} (h : w.ownsRow base e size (.slice A (n + q) cap) (n + q) (xs ++ ys)) (hx : xs.length = n * size) : w.ownsRow base e size (.slice A n cap) n xs := by
  refine ⟨hx, ?_⟩
  rcases h.2 with ⟨hv, h0⟩ | ⟨g, cap', cur, hv, hg, hh, hn, hm, hs, ht⟩
  · injection hv with e1 e2 e3
    have : n = 0 := by omega
    subst this
    exact .inl ⟨by rw [e1, e3], rfl⟩
  · injection hv with e1 e2 e3
    subst e1 e3
    refine .inr ⟨g, cap, cur, rfl, hg, hh, by omega, hm, hs, ?_⟩
    have e4 : cur.toList.take (n * size) = (cur.toList.take ((n + q) * size)).take (n * size) := by
      rw [List.take_take, Nat.min_eq_left (Nat.mul_le_mul_right _ (by omega))]
    rw [e4, ht, ← hx]; exact List.take_left
theorem own_kept_below (h : w.ownsRow base e size v n xs) (hb : Below w.heap.size w w1) : w1.ownsRow base e size v n xs := by
  refine ⟨h.1, ?_⟩
  rcases h.2 with h0 | ⟨g, cap, cur, hv, hg, hh, rest⟩
  · exact .inl h0
  · exact .inr ⟨g, cap, cur, hv, hg, (hb.block g (Array.getElem?_eq_some_iff.1 hh).1).trans hh, rest⟩
theorem grown_below {row : Option Nat} (h : w.grownBy w' row) (hb : Below w'.heap.size w' w1) : w.grownBy w1 row :=
  ⟨hb.os.trans h.os, hb.tape.trans h.tape, hb.output.trans h.output, Nat.le_trans h.size hb.size, fun k hk hne => (hb.block k (Nat.lt_of_lt_of_le hk h.size)).trans (h.block k hk hne)⟩
theorem grown_refl (w : World) (row : Option Nat) : w.grownBy w row := ⟨rfl, rfl, rfl, Nat.le_refl _, fun _ _ _ => rfl⟩

/-- A list l that is being appended to as x: x is l's own row grown, or a new one; of what there was, l's row alone may have changed, behind l's end. -/
structure Growing (w1 w : World) (base : Nat) (e : TypeId) (size : Nat) (l x : Value) (n q : Nat) (c ts : List Value) : Prop where
  own : w.ownsRow base e size x (n + q) (c ++ ts)
  left : w.ownsRow base e size l n c
  row : (∃ A cap, x = .slice A (n + q) cap ∧ l = .slice A n cap) ∨ (∃ g cap, x = .slice (some ⟨g, 0, none⟩) (n + q) cap ∧ w1.heap.size ≤ g)
  grown : w1.grownBy w l.ownBlock
  old : ∀ b, l.ownBlock = some b → b < w1.heap.size

theorem Growing.start {A : Option Addr} {cap : Nat} {c : List Value} (h : w.ownsRow base e size (.slice A n cap) n c) : Growing w w base e size (.slice A n cap) (.slice A n cap) n 0 c [] :=
  ⟨by simpa using h, h, .inl ⟨A, cap, rfl, rfl⟩, grown_refl w _, fun b hb => (h.lt b hb).2⟩
theorem Growing.below {l : Value} {q : Nat} {c ts : List Value} (h : Growing w1 w base e size l x n q c ts) (hb : Below w.heap.size w w') : Growing w1 w' base e size l x n q c ts :=
  ⟨own_kept_below h.own hb, own_kept_below h.left hb, h.row, grown_below h.grown hb, h.old⟩
theorem Growing.step {l x' : Value} {q : Nat} {c ts us : List Value} (h : Growing w1 w base e size l x n q c ts) (hc : c.length = n * size) (hown : w'.ownsRow base e size x' (n + q + 1) (c ++ ts ++ us)) (hg : w.grownBy w' x.ownBlock) (hs : Stay w w' x x' (n + q) 1) :
    Growing w1 w' base e size l x' n (q + 1) c (ts ++ us) := by
  have hz := h.grown.size
  have hown' : w'.ownsRow base e size x' (n + (q + 1)) (c ++ (ts ++ us)) := by rw [← List.append_assoc]; exact hown
  rcases hs with ⟨g, cap, hx, hx'⟩ | ⟨cap, hx', hg0⟩
  · subst hx hx'
    rcases h.row with ⟨A, cap', e1, e2⟩ | ⟨g', cap', e1, e2⟩
    · injection e1 with e1 _ e3
      subst e1 e3 e2
      refine ⟨hown', ?_, .inl ⟨_, _, rfl, rfl⟩, ?_, h.old⟩
      · have hx2 := hown'
        exact own_shorter (q := q + 1) hx2 hc
      · exact ⟨hg.os.trans h.grown.os, hg.tape.trans h.grown.tape, hg.output.trans h.grown.output, Nat.le_trans hz hg.size, fun k hk hne => (hg.block k (by omega) hne).trans (h.grown.block k hk hne)⟩
    · injection e1 with e1 _ e3
      injection e1 with e1
      injection e1 with e1
      subst e1 e3
      refine ⟨hown', h.left.kept hg ?_, .inr ⟨_, _, rfl, e2⟩, ?_, h.old⟩
      · rcases hl : l.ownBlock with _ | b
        · exact .inl rfl
        · refine .inr fun e4 => ?_
          have h5 : some b = some g := e4
          injection h5 with h5
          subst h5
          have := h.old _ hl
          omega
      · exact ⟨hg.os.trans h.grown.os, hg.tape.trans h.grown.tape, hg.output.trans h.grown.output, Nat.le_trans hz hg.size, fun k hk hne => (hg.block k (by omega) (by
          intro e5
          have h5 : some k = some g := e5
          injection h5 with h5
          omega)).trans (h.grown.block k hk hne)⟩
  · subst hx'
    refine ⟨hown', h.left.kept hg0 ?_, .inr ⟨_, _, rfl, hz⟩, ?_, h.old⟩
    · rcases hl : l.ownBlock with _ | b
      · exact .inl rfl
      · exact .inr (by simp)
    · exact ⟨hg0.os.trans h.grown.os, hg0.tape.trans h.grown.tape, hg0.output.trans h.grown.output, Nat.le_trans hz hg0.size, fun k hk hne => (hg0.block k (by omega) (by simp)).trans (h.grown.block k hk hne)⟩
end
end Go.Proofs.Ytmfbjmffodnaeaa.Wk
