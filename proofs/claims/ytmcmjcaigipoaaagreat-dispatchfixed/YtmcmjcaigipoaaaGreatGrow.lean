/-
  A slice that its owner lets grow by append: which block holds it, and what an append leaves. Conditions: none; no program is named here.
-/
import Derived.Test.YtmcmjcaigipoaaaGreatMem
import Derived.Deep.RegionLawGrows
import Derived.Deep.RegionHeldLaw
namespace Go.Sept
open Go.RowKit

/-- The slice v owns the cells xs (n elements of type e, of size cells), in the block b, if in any. -/
structure Grow (e : TypeId) (size : Nat) (w : World) (v : Value) (b n : Nat) (xs : List Value) : Prop where
  own : w.ownsRow 0 e size v n xs
  spot : ∀ k, v.ownBlock = some k → k = b

theorem Grow.nil (e : TypeId) (size : Nat) (w : World) (b : Nat) : Grow e size w (.slice none 0 0) b 0 [] := ⟨World.ownsRow_nil _ _ _ _, fun k h => by cases h⟩
theorem Grow.only {e : TypeId} {size : Nat} {w w' : World} {v : Value} {b n : Nat} {xs : List Value} {S : Nat → Prop} (h : Grow e size w v b n xs) (ho : Only S w w') (hb : ¬ S b) : Grow e size w' v b n xs := by
  refine ⟨⟨h.own.1, ?_⟩, h.spot⟩
  rcases h.own.2 with hn | ⟨g, cap, cur, rfl, hb0, hg, rest⟩
  · exact .inl hn
  · have e : g = b := h.spot g rfl
    subst e
    exact .inr ⟨g, cap, cur, rfl, hb0, (ho.block g (lt_of_block hg) hb).trans hg, rest⟩
theorem Grow.shape {e : TypeId} {size : Nat} {w : World} {v : Value} {b n : Nat} {xs : List Value} (h : Grow e size w v b n xs) : ∃ ao cap, v = .slice ao n cap ∧ n ≤ cap ∧ cap ≤ maxLen := by
  rcases h.own.2 with ⟨rfl, rfl⟩ | ⟨g, cap, cur, rfl, _, _, h1, h2, _⟩
  · exact ⟨none, 0, rfl, Nat.le_refl _, Nat.zero_le _⟩
  · exact ⟨_, cap, rfl, h1, h2⟩
/-- Where there is an element the slice lies in b. -/
theorem Grow.cells {e : TypeId} {size : Nat} {w : World} {v : Value} {b n : Nat} {xs : List Value} (h : Grow e size w v b n xs) (hn : 0 < n) :
    ∃ cap, v = .slice (some ⟨b, 0, none⟩) n cap ∧ n ≤ cap ∧ cap ≤ maxLen ∧ ∀ j u, xs[j]? = some u → w.cell? ⟨b, j, none⟩ = some u := by
  rcases h.own.2 with ⟨rfl, rfl⟩ | ⟨g, cap, cur, rfl, _, hg, h1, h2, _⟩
  · omega
  · have e : g = b := h.spot g rfl
    subst e
    refine ⟨cap, rfl, h1, h2, fun j u hj => ?_⟩
    have := h.own.cells (g := g) rfl j u hj
    have hadd : (⟨g, 0, none⟩ : Addr).add j = ⟨g, j, none⟩ := by unfold Addr.add; split <;> simp_all
    rwa [hadd] at this
theorem Grow.lt {e : TypeId} {size : Nat} {w : World} {v : Value} {b n : Nat} {xs : List Value} (h : Grow e size w v b n xs) (hn : 0 < n) : b < w.heap.size := by
  rcases h.own.2 with ⟨rfl, rfl⟩ | ⟨g, cap, cur, rfl, _, hg, _⟩
  · omega
  · have e : g = b := h.spot g rfl
    subst e
    exact lt_of_block hg
theorem Grow.same {e : TypeId} {size : Nat} {w w' : World} {v : Value} {b n : Nat} {xs : List Value} (h : Grow e size w v b n xs) (eh : w'.heap = w.heap) : Grow e size w' v b n xs := by
  refine ⟨⟨h.own.1, ?_⟩, h.spot⟩
  rw [eh]
  exact h.own.2
/-- A block of another type is not the slice's. -/
theorem Grow.far {e t : TypeId} {size : Nat} {w : World} {v : Value} {b n F : Nat} {xs : List Value} {c : Array Value} (h : Grow e size w v b n xs) (hne : t ≠ e) (h1 : w.heap[F]? = some (.cells c t)) : ¬ v.ownBlock = some F := by
  intro ho
  rcases h.own.2 with ⟨rfl, _⟩ | ⟨g, cap, cur, rfl, _, hg, _⟩
  · cases ho
  · simp [Value.ownBlock] at ho
    subst ho
    rw [h1] at hg
    injection hg with hg
    injection hg with _ hg
    exact hne hg
theorem news_of_block {w : World} {b : Nat} {xs : List Value} {t : TypeId} (h : w.heap[b]? = some (.cells xs.toArray t)) : ∀ j u, xs[j]? = some u → w.cell? ((⟨b, 0, none⟩ : Addr).add j) = some u := by
  intro j u hj
  have hadd : (⟨b, 0, none⟩ : Addr).add j = ⟨b, j, none⟩ := by unfold Addr.add; split <;> simp_all
  rw [hadd, cell_of_block h]
  simpa using hj
theorem Grow.made {e : TypeId} {size : Nat} (w : World) (n : Nat) (xs : List Value) (hn : n ≤ maxLen) (hl : xs.length = n * size) : Grow e size (w.alloc (.cells xs.toArray e)) (.slice (some ⟨w.heap.size, 0, none⟩) n n) w.heap.size n xs :=
  ⟨⟨hl, .inr ⟨w.heap.size, n, xs.toArray, rfl, Nat.zero_le _, heap_new _ _, Nat.le_refl _, hn, by simpa using hl, by simp [← hl]⟩⟩, fun k hk => by simp [Value.ownBlock] at hk; exact hk.symm⟩

section
variable {P : Program} (w : World)
theorem run_append_grown (t ty e : TypeId) (z : Value) (size bytes : Nat) (ht : P.underlying t = some (.slice e)) (hinfo : (P.info? e).map (fun i => (i.zero, i.size, i.bytes)) = some (some z, size, bytes)) (hzs : z.cells.size = size) (hsz : 0 < size)
    (v : Value) (b n : Nat) (xs : List Value) (h : Grow e size w v b n xs)
    (a : Addr) (m c : Nat) (news : List Value) (hm : 0 < m) (hl : news.length = m * size) (hnews : ∀ j u, news[j]? = some u → w.cell? (a.add j) = some u) (h1 : ∀ u ∈ news, u.oneCell' = true)
    (h63 : n + m ≤ maxLen) (hbytes : (n + m) * bytes ≤ 140737488355328) :
    ∃ b' cap' w', (Builtin.append_ #[t, t] ty #[v, .slice (some a) m c]).run P w = .ok (.slice (some ⟨b', 0, none⟩) (n + m : Nat) cap') w' ∧ Grow e size w' (.slice (some ⟨b', 0, none⟩) (n + m : Nat) cap') b' (n + m) (xs ++ news) ∧
      Only (fun k => v.ownBlock = some k) w w' ∧ (b' = b ∨ w.heap.size ≤ b') := by
  obtain ⟨i, hi, hz0, hz1, hz2⟩ := info_parts hinfo
  rcases h.own.2 with ⟨rfl, rfl⟩ | ⟨g, cap, cur, rfl, _, hg, h2, h3, h4, h5⟩
  · obtain ⟨v', w', hrun, r1, r2, r3⟩ := run_append_own (P := P) w w.heap.size t ty e i z size bytes ht hi hz0 hz1 hz2 hzs hsz (.slice none 0 0) 0 xs ⟨h.own.1, .inl ⟨rfl, rfl⟩⟩ a m c news hl hnews h1 h63 hbytes (Nat.le_refl _)
    rcases r1.2 with ⟨rfl, h0⟩ | ⟨g, cap', cur', rfl, hb0, hg', rest⟩
    · omega
    · exact ⟨g, cap', w', hrun, ⟨⟨r1.1, .inr ⟨g, cap', cur', rfl, Nat.zero_le _, hg', rest⟩⟩, fun k hk => by simp [Value.ownBlock] at hk; exact hk.symm⟩,
        ⟨r2.os, r2.tape, r2.output, r2.size, fun k hk _ => r2.block k hk (by simp [Value.ownBlock])⟩, .inr hb0⟩
  · have eg : g = b := h.spot g rfl
    subst eg
    by_cases hroom : n + m ≤ cap
    · have hfit : n * size + news.length ≤ cur.size := by rw [h4, hl, ← Nat.add_mul]; exact Nat.mul_le_mul_right _ hroom
      subst hz1
      have hr := run_append_room (P := P) w t ty e i ht hi g n cap cur hg a m c news hl hnews h1 hroom hfit
      obtain ⟨v', w', hrun, r1, r2, r3⟩ := run_append_own (P := P) w 0 t ty e i z i.size bytes ht hi hz0 rfl hz2 hzs hsz _ n xs h.own a m c news hl hnews h1 h63 hbytes (Nat.zero_le _)
      rw [hr] at hrun
      injection hrun with e1 e2
      subst e1 e2
      exact ⟨g, cap, _, hr, ⟨r1, fun k hk => by simp [Value.ownBlock] at hk; exact hk.symm⟩, ⟨r2.os, r2.tape, r2.output, r2.size, fun k hk hne => r2.block k hk (fun e => hne e.symm)⟩, .inl rfl⟩
    · obtain ⟨v', w', hrun, r1, r2⟩ := run_append_arg_grows (P := P) w t ty e i z size bytes ht hi hz0 hz1 hz2 hzs hsz ⟨g, 0, none⟩ n cap xs h.own.1 (h.own.cells (g := g) rfl) a m c news hl hnews (by omega) h63 hbytes
      rcases r1.2 with ⟨rfl, h0⟩ | ⟨g', cap', cur', rfl, hb0, hg', rest⟩
      · omega
      · exact ⟨g', cap', w', hrun, ⟨⟨r1.1, .inr ⟨g', cap', cur', rfl, Nat.zero_le _, hg', rest⟩⟩, fun k hk => by simp [Value.ownBlock] at hk; exact hk.symm⟩,
          ⟨r2.os, r2.tape, r2.output, r2.size, fun k hk _ => r2.block k hk (by simp)⟩, .inr hb0⟩

/-- The same, as one step of a region that draws its order. -/
theorem step_append_grown {ops : Array Oper} {o : Oper} {a : Act} {K : Act → World → Prop} {Q : Exit → Act → World → Prop} {E : Prop}
    (hg : o.guard = none) (s x : Operand) (t : TypeId) (hop : o.op = Op.call { callee := Callee.builtin Builtin.append, args := #[s, x], argTypes := #[t, t] })
    (e : TypeId) (z : Value) (size bytes : Nat) (ht : P.underlying t = some (.slice e)) (hinfo : (P.info? e).map (fun i => (i.zero, i.size, i.bytes)) = some (some z, size, bytes)) (hzs : z.cells.size = size) (hsz : 0 < size)
    (v : Value) (b n : Nat) (xs : List Value) (hs : a.eval s = v) (h : Grow e size w v b n xs)
    (ad : Addr) (m c : Nat) (news : List Value) (hx : a.eval x = .slice (some ad) m c) (hm : 0 < m) (hl : news.length = m * size) (hnews : ∀ j u, news[j]? = some u → w.cell? (ad.add j) = some u) (h1 : ∀ u ∈ news, u.oneCell' = true)
    (h63 : n + m ≤ maxLen) (hbytes : (n + m) * bytes ≤ 140737488355328)
    (hK : ∀ b' cap' w', Grow e size w' (.slice (some ⟨b', 0, none⟩) (n + m : Nat) cap') b' (n + m) (xs ++ news) → Only (fun k => v.ownBlock = some k) w w' → (b' = b ∨ w.heap.size ≤ b') → K (a.put o.dst (.slice (some ⟨b', 0, none⟩) (n + m : Nat) cap')) w') :
    if Region.wanted o (yielded ops a.tmps) = true then Oper.wp P o a w K Q else E := by
  have hw : Region.wanted o (yielded ops a.tmps) = true := by simp [Region.wanted, hg]
  rw [if_pos hw]
  obtain ⟨b', cap', w', hrun, r1, r2, r3⟩ := run_append_grown (P := P) w t o.type e z size bytes ht hinfo hzs hsz v b n xs h ad m c news hm hl hnews h1 h63 hbytes
  unfold Oper.wp execOp
  simp only [hop, resolve, invoke, builtin, Sem.run_bind, Sem.run_pure, Result.andThen_ok, List.map_toArray, List.map_cons, List.map_nil, hs, hx, hrun]
  exact hK b' cap' w' r1 r2 r3

/-- The same in a row of operations. -/
theorem wpList_append_grown {ops : Array Oper} {rest : List Oper} {o : Oper} {a : Act} {Q : Exit → Act → World → Prop} (hgd : o.guard = none) (s x : Operand) (t : TypeId)
    (hop : o.op = .call { callee := .builtin .append, args := #[s, x], argTypes := #[t, t] })
    (e : TypeId) (z : Value) (size bytes : Nat) (ht : P.underlying t = some (.slice e)) (hinfo : (P.info? e).map (fun i => (i.zero, i.size, i.bytes)) = some (some z, size, bytes)) (hzs : z.cells.size = size) (hsz : 0 < size)
    (v : Value) (b n : Nat) (xs : List Value) (hs : a.eval s = v) (h : Grow e size w v b n xs)
    (ad : Addr) (m c : Nat) (news : List Value) (hx : a.eval x = .slice (some ad) m c) (hm : 0 < m) (hl : news.length = m * size) (hnews : ∀ j u, news[j]? = some u → w.cell? (ad.add j) = some u) (h1 : ∀ u ∈ news, u.oneCell' = true)
    (h63 : n + m ≤ maxLen) (hbytes : (n + m) * bytes ≤ 140737488355328)
    (hK : ∀ b' cap' w', Grow e size w' (.slice (some ⟨b', 0, none⟩) (n + m : Nat) cap') b' (n + m) (xs ++ news) → Only (fun k => v.ownBlock = some k) w w' → (b' = b ∨ w.heap.size ≤ b') → wpList P ops Q rest (a.put o.dst (.slice (some ⟨b', 0, none⟩) (n + m : Nat) cap')) w') :
    wpList P ops Q (o :: rest) a w := by
  refine wpList_plain hgd fun _ hK' => ?_
  obtain ⟨b', cap', w', hrun, r1, r2, r3⟩ := run_append_grown (P := P) w t o.type e z size bytes ht hinfo hzs hsz v b n xs h ad m c news hm hl hnews h1 h63 hbytes
  unfold Oper.wp execOp
  simp only [hop, resolve, invoke, builtin, Sem.run_bind, Sem.run_pure, Result.andThen_ok, List.map_toArray, List.map_cons, List.map_nil, hs, hx, hrun]
  exact hK' _ _ (hK b' cap' w' r1 r2 r3)
end
end Go.Sept
