/-
  append(v, x...), x whatever slice, also one of nothing, onto a slice that its owner lets grow. Conditions: none; no program is named here.
-/
import Derived.Test.YtmcmjcaigipoaaaGreatGrow
import Derived.Deep.Upon
namespace Go.Sept
open Go.RowKit

section
variable {P : Program} (w : World)
theorem run_append_any (t ty e : TypeId) (z : Value) (size bytes : Nat) (ht : P.underlying t = some (.slice e)) (hinfo : (P.info? e).map (fun i => (i.zero, i.size, i.bytes)) = some (some z, size, bytes)) (hzs : z.cells.size = size) (hsz : 0 < size)
    (v : Value) (b n : Nat) (xs : List Value) (h : Grow e size w v b n xs)
    (xo : Option Addr) (m c : Nat) (news : List Value) (hl : news.length = m * size) (hnews : ∀ j u, news[j]? = some u → ∃ a, xo = some a ∧ w.cell? (a.add j) = some u) (h1 : ∀ u ∈ news, u.oneCell' = true)
    (h63 : n + m ≤ maxLen) (hbytes : (n + m) * bytes ≤ 140737488355328) :
    ∃ v' b' w', (Builtin.append_ #[t, t] ty #[v, .slice xo m c]).run P w = .ok v' w' ∧ Grow e size w' v' b' (n + m) (xs ++ news) ∧
      Only (fun k => v.ownBlock = some k) w w' ∧ (b' = b ∨ w.heap.size ≤ b') := by
  by_cases hm : 0 < m
  · have h0 : 0 < news.length := by rw [hl]; exact Nat.mul_pos hm hsz
    obtain ⟨a, rfl, _⟩ := hnews 0 _ (List.getElem?_eq_getElem h0)
    obtain ⟨b', cap', w', hr, hg, ho, hb⟩ := run_append_grown (P := P) w t ty e z size bytes ht hinfo hzs hsz v b n xs h a m c news hm hl (fun j u hj => by
      obtain ⟨a', ha, hc⟩ := hnews j u hj
      injection ha with ha
      subst ha
      exact hc) h1 h63 hbytes
    exact ⟨_, b', w', hr, hg, ho, hb⟩
  · obtain rfl : m = 0 := by omega
    obtain rfl : news = [] := List.length_eq_zero_iff.1 (by rw [hl, Nat.zero_mul])
    obtain ⟨i, hi, _, hz1, _⟩ := info_parts hinfo
    obtain ⟨ao, cap, rfl, hc, _⟩ := h.shape
    have hs : Src P i.size t (.slice xo 0 c) 0 [] w := by
      cases xo with
      | none => exact ⟨.inl ⟨e, ht⟩, fun w' => by simp [Builtin.lenOf], by simp [Builtin.firstCells], by simp [Builtin.firstCells], by simp, by simp⟩
      | some a => exact Src.ofSlice w ht a 0 c [] (by simp) (fun j u hj => by simp at hj) (by simp)
    refine ⟨.slice ao n cap, b, w, run_append_nothing w t t ty e i ht hi ao n cap hc _ hs, ?_, Only.refl _ _, .inl rfl⟩
    rw [Nat.add_zero, List.append_nil]
    exact h

/-- The same, as one step of a region that draws its order. -/
theorem step_append_any {ops : Array Oper} {o : Oper} {a : Act} {K : Act → World → Prop} {Q : Exit → Act → World → Prop} {E : Prop}
    (hg : o.guard = none) (s x : Operand) (t : TypeId) (hop : o.op = Op.call { callee := Callee.builtin Builtin.append, args := #[s, x], argTypes := #[t, t] })
    (e : TypeId) (z : Value) (size bytes : Nat) (ht : P.underlying t = some (.slice e)) (hinfo : (P.info? e).map (fun i => (i.zero, i.size, i.bytes)) = some (some z, size, bytes)) (hzs : z.cells.size = size) (hsz : 0 < size)
    (v : Value) (b n : Nat) (xs : List Value) (hs : a.eval s = v) (h : Grow e size w v b n xs)
    (xo : Option Addr) (m c : Nat) (news : List Value) (hx : a.eval x = .slice xo m c) (hl : news.length = m * size) (hnews : ∀ j u, news[j]? = some u → ∃ a, xo = some a ∧ w.cell? (a.add j) = some u) (h1 : ∀ u ∈ news, u.oneCell' = true)
    (h63 : n + m ≤ maxLen) (hbytes : (n + m) * bytes ≤ 140737488355328)
    (hK : ∀ v' b' w', Grow e size w' v' b' (n + m) (xs ++ news) → Only (fun k => v.ownBlock = some k) w w' → (b' = b ∨ w.heap.size ≤ b') → K (a.put o.dst v') w') :
    if Region.wanted o (yielded ops a.tmps) = true then Oper.wp P o a w K Q else E := by
  have hw : Region.wanted o (yielded ops a.tmps) = true := by simp [Region.wanted, hg]
  rw [if_pos hw]
  obtain ⟨v', b', w', hrun, r1, r2, r3⟩ := run_append_any (P := P) w t o.type e z size bytes ht hinfo hzs hsz v b n xs h xo m c news hl hnews h1 h63 hbytes
  unfold Oper.wp execOp
  simp only [hop, resolve, invoke, builtin, Sem.run_bind, Sem.run_pure, Result.andThen_ok, List.map_toArray, List.map_cons, List.map_nil, hs, hx, hrun]
  exact hK v' b' w' r1 r2 r3

/-- A slice of nothing, laid anew. -/
theorem Grow.empty {e : TypeId} {size g : Nat} (h : w.heap[g]? = some (.cells #[] e)) : Grow e size w (.slice (some ⟨g, 0, none⟩) 0 0) g 0 [] :=
  ⟨⟨by simp, .inr ⟨g, 0, #[], rfl, Nat.zero_le _, h, Nat.le_refl _, Nat.zero_le _, by simp, by simp⟩⟩, fun k hk => by simp [Value.ownBlock] at hk; exact hk.symm⟩
/-- Onto a slice of nothing that was laid anew, in a region that draws its order. -/
theorem step_append_fresh {ops : Array Oper} {o : Oper} {a : Act} {K : Act → World → Prop} {Q : Exit → Act → World → Prop} {E : Prop}
    (hg : o.guard = none) (s x : Operand) (t : TypeId) (hop : o.op = Op.call { callee := Callee.builtin Builtin.append, args := #[s, x], argTypes := #[t, t] })
    (e : TypeId) (z : Value) (size bytes : Nat) (ht : P.underlying t = some (.slice e)) (hinfo : (P.info? e).map (fun i => (i.zero, i.size, i.bytes)) = some (some z, size, bytes)) (hzs : z.cells.size = size) (hsz : 0 < size)
    (g : Nat) (hs : a.eval s = .slice (some ⟨g, 0, none⟩) 0 0) (hb : w.heap[g]? = some (.cells #[] e))
    (xo : Option Addr) (m c : Nat) (news : List Value) (hx : a.eval x = .slice xo m c) (hl : news.length = m * size) (hnews : ∀ j u, news[j]? = some u → ∃ a, xo = some a ∧ w.cell? (a.add j) = some u) (h1 : ∀ u ∈ news, u.oneCell' = true)
    (h63 : m ≤ maxLen) (hbytes : m * bytes ≤ 140737488355328)
    (hK : ∀ v' b' w', Grow e size w' v' b' m news → Only (fun k => k = g) w w' → (b' = g ∨ w.heap.size ≤ b') → K (a.put o.dst v') w') :
    if Region.wanted o (yielded ops a.tmps) = true then Oper.wp P o a w K Q else E :=
  step_append_any w hg s x t hop e z size bytes ht hinfo hzs hsz _ g 0 [] hs (Grow.empty w hb) xo m c news hx hl hnews h1 (by omega) (by rw [Nat.zero_add]; exact hbytes) (fun v' b' w' k1 k2 k3 => hK v' b' w' (by rw [Nat.zero_add, List.nil_append] at k1; exact k1) (k2.mono (fun k _ hk => by simp [Value.ownBlock] at hk; exact hk.symm)) k3)

/-- The same in a row of operations. -/
theorem wpList_append_any {ops : Array Oper} {rest : List Oper} {o : Oper} {a : Act} {Q : Exit → Act → World → Prop} (hgd : o.guard = none) (s x : Operand) (t : TypeId)
    (hop : o.op = .call { callee := .builtin .append, args := #[s, x], argTypes := #[t, t] })
    (e : TypeId) (z : Value) (size bytes : Nat) (ht : P.underlying t = some (.slice e)) (hinfo : (P.info? e).map (fun i => (i.zero, i.size, i.bytes)) = some (some z, size, bytes)) (hzs : z.cells.size = size) (hsz : 0 < size)
    (v : Value) (b n : Nat) (xs : List Value) (hs : a.eval s = v) (h : Grow e size w v b n xs)
    (xo : Option Addr) (m c : Nat) (news : List Value) (hx : a.eval x = .slice xo m c) (hl : news.length = m * size) (hnews : ∀ j u, news[j]? = some u → ∃ a, xo = some a ∧ w.cell? (a.add j) = some u) (h1 : ∀ u ∈ news, u.oneCell' = true)
    (h63 : n + m ≤ maxLen) (hbytes : (n + m) * bytes ≤ 140737488355328)
    (hK : ∀ v' b' w', Grow e size w' v' b' (n + m) (xs ++ news) → Only (fun k => v.ownBlock = some k) w w' → (b' = b ∨ w.heap.size ≤ b') → wpList P ops Q rest (a.put o.dst v') w') :
    wpList P ops Q (o :: rest) a w := by
  refine wpList_plain hgd fun _ hK' => ?_
  obtain ⟨v', b', w', hrun, r1, r2, r3⟩ := run_append_any (P := P) w t o.type e z size bytes ht hinfo hzs hsz v b n xs h xo m c news hl hnews h1 h63 hbytes
  unfold Oper.wp execOp
  simp only [hop, resolve, invoke, builtin, Sem.run_bind, Sem.run_pure, Result.andThen_ok, List.map_toArray, List.map_cons, List.map_nil, hs, hx, hrun]
  exact hK' _ _ (hK v' b' w' r1 r2 r3)
end
end Go.Sept
