/-
  A slice of numbers that its owner lets grow by append, and cuts at its front. Conditions: none; no program is named here.
-/
import Derived.Test.YtdoihlnipajniaaFrameIs
namespace Go.Sept
open Go.RowKit

/-- The slice v owns the numbers xs, in the block b, if in any. -/
def CutIs (w : World) (v : Value) (b : Nat) (xs : List Int) : Prop :=
  (v = .slice none 0 0 ∧ xs = []) ∨ ∃ off cap cur, v = .slice (some ⟨b, off, none⟩) xs.length cap ∧ w.heap[b]? = some (.cells cur 2) ∧ xs.length ≤ cap ∧ cap ≤ maxLen ∧ off + cap ≤ cur.size ∧ ∀ j, j < xs.length → cur[off + j]? = some (.int .i64 (xs.getD j 0))

theorem CutIs.nil (w : World) (b : Nat) : CutIs w (.slice none 0 0) b [] := .inl ⟨rfl, rfl⟩
theorem CutIs.only {w w' : World} {v : Value} {b : Nat} {xs : List Int} {S : Nat → Prop} (h : CutIs w v b xs) (ho : Only S w w') (hb : b < w.heap.size → ¬ S b) : CutIs w' v b xs := by
  rcases h with h | ⟨off, cap, cur, h1, h2, h3⟩
  · exact .inl h
  · exact .inr ⟨off, cap, cur, h1, (ho.block b (lt_of_block h2) (hb (lt_of_block h2))).trans h2, h3⟩
theorem CutIs.shape {w : World} {v : Value} {b : Nat} {xs : List Int} (h : CutIs w v b xs) : ∃ ao cap, v = .slice ao xs.length cap ∧ xs.length ≤ cap ∧ cap ≤ maxLen := by
  rcases h with ⟨rfl, rfl⟩ | ⟨off, cap, cur, h1, h2, h3, h4, h5⟩
  · exact ⟨none, 0, rfl, Nat.le_refl _, Nat.zero_le _⟩
  · exact ⟨_, cap, h1, h3, h4⟩
/-- The block may be said to be a far one, where there is none. -/
theorem CutIs.norm {w : World} {v : Value} {b : Nat} {xs : List Int} (h : CutIs w v b xs) : ∃ b', CutIs w v b' xs ∧ (b' = b ∧ b < w.heap.size ∨ b' = w.heap.size + 5) := by
  rcases h with h | h
  · exact ⟨_, .inl h, .inr rfl⟩
  · obtain ⟨off, cap, cur, h1, h2, h3⟩ := h
    exact ⟨b, .inr ⟨off, cap, cur, h1, h2, h3⟩, .inl ⟨rfl, lt_of_block h2⟩⟩
/-- The first one; and what is left without it. -/
theorem CutIs.first {w : World} {v : Value} {b : Nat} {x : Int} {xs : List Int} (h : CutIs w v b (x :: xs)) : ∃ off cap, v = .slice (some ⟨b, off, none⟩) (xs.length + 1) cap ∧ w.cell? ⟨b, off, none⟩ = some (.int .i64 x) ∧ xs.length + 1 ≤ cap ∧ CutIs w (.slice (if cap = 1 then some ⟨b, off, none⟩ else some ⟨b, off + 1, none⟩) xs.length (cap - 1)) b xs := by
  rcases h with ⟨_, h⟩ | ⟨off, cap, cur, h1, h2, h3, h4, h5, h6⟩
  · cases h
  · simp only [List.length_cons] at h1 h3
    refine ⟨off, cap, h1, ?_, h3, ?_⟩
    · rw [cell_of_block h2]
      have := h6 0 (by simp)
      simpa using this
    · by_cases hc : cap = 1
      · rw [if_pos hc]
        have e : xs = [] := List.length_eq_zero_iff.1 (by omega)
        subst e
        exact .inr ⟨off, cap - 1, cur, rfl, h2, by simp, by omega, by omega, fun j hj => absurd hj (Nat.not_lt_zero _)⟩
      · rw [if_neg hc]
        refine .inr ⟨off + 1, cap - 1, cur, rfl, h2, by omega, by omega, by omega, fun j hj => ?_⟩
        have := h6 (j + 1) (by simp; omega)
        rw [show off + 1 + j = off + (j + 1) by omega, this]
        simp
theorem cut_of_grow {w : World} {v : Value} {b n : Nat} {xs : List Int} (h : Grow 2 1 w v b n (xs.map (Value.int .i64))) : CutIs w v b xs := by
  have hl := h.own.1
  rw [List.length_map, Nat.mul_one] at hl
  rcases h.own.2 with ⟨h1, h2⟩ | ⟨g, cap, cur, rfl, _, hg, h2, h3, h4, h5⟩
  · exact .inl ⟨h1, List.length_eq_zero_iff.1 (by omega)⟩
  · have e : g = b := h.spot g rfl
    subst e
    refine .inr ⟨0, cap, cur, by rw [hl], hg, by omega, h3, by omega, fun j hj => ?_⟩
    have e1 : (cur.toList.take (n * 1))[j]? = some (.int .i64 (xs.getD j 0)) := by
      rw [h5]
      simp [List.getElem?_eq_getElem hj]
    rw [List.getElem?_take, if_pos (by omega)] at e1
    simpa using e1

section
variable {P : Program} (w : World)
theorem run_append_cut (t ty : TypeId) (ht : P.underlying t = some (.slice 2)) (hinfo : (P.info? 2).map (fun i => (i.zero, i.size, i.bytes)) = some (some (.int .i64 0), 1, 8)) (v : Value) (b : Nat) (xs : List Int) (h : CutIs w v b xs)
    (B c : Nat) (x : Int) (hx : w.cell? ⟨B, 0, none⟩ = some (.int .i64 x)) (hn : xs.length ≤ 100000) :
    ∃ b' ao cap' w', (Builtin.append_ #[t, t] ty #[v, .slice (some ⟨B, 0, none⟩) 1 c]).run P w = .ok (.slice ao (xs.length + 1 : Nat) cap') w' ∧ CutIs w' (.slice ao (xs.length + 1 : Nat) cap') b' (xs ++ [x]) ∧
      Only (fun k => k = b) w w' ∧ (b' = b ∨ w.heap.size ≤ b') := by
  have hnews : ∀ j u, [Value.int .i64 x][j]? = some u → w.cell? ((⟨B, 0, none⟩ : Addr).add j) = some u := by
    intro j u hj
    obtain rfl : j = 0 := by
      rcases j with _ | j
      · rfl
      · simp at hj
    obtain rfl : Value.int .i64 x = u := by simpa using hj
    rw [Addr.add_lit]
    exact hx
  have h1c : ∀ u ∈ [Value.int .i64 x], u.oneCell' = true := by
    intro u hu
    obtain rfl : u = Value.int .i64 x := by simpa using hu
    rfl
  have h63 : xs.length + 1 ≤ maxLen := by unfold maxLen; omega
  rcases h with ⟨rfl, rfl⟩ | ⟨off, cap, cur, rfl, h2, h3, h4, h5, h6⟩
  · obtain ⟨b', cap', w', r1, r2, r3, r4⟩ := run_append_grown (P := P) w t ty 2 (.int .i64 0) 1 8 ht hinfo rfl (by decide) (.slice none 0 0) w.heap.size 0 [] (Grow.nil _ _ _ _) ⟨B, 0, none⟩ 1 c [.int .i64 x] (by decide) rfl hnews h1c h63 (by decide)
    refine ⟨b', some ⟨b', 0, none⟩, cap', w', r1, cut_of_grow (xs := [x]) r2, r3.mono (fun k _ e => by cases e), ?_⟩
    rcases r4 with r4 | r4
    · exact .inr (Nat.le_of_eq r4.symm)
    · exact .inr r4
  · obtain ⟨i, hi, hz0, hz1, hz2⟩ := info_parts hinfo
    by_cases hroom : xs.length + 1 ≤ cap
    · have hs : xs.length < cur.size - off := by omega
      have hr := run_append_room_cells (P := P) w t ty 2 i ht hi b off xs.length cap ⟨B, 0, none⟩ 1 c [.int .i64 x] (by rw [hz1]; rfl) hnews h1c hroom
        (fun j hj => by
          obtain rfl : j = 0 := by simpa using hj
          rw [hz1, cell_of_block h2]
          simp
          omega)
        (fun j _ => frozen_of_block h2 _)
      have ew : w.setCells b (off + xs.length * i.size) [.int .i64 x] = w.setCell ⟨b, off + xs.length, none⟩ (.int .i64 x) := by rw [hz1, Nat.mul_one]; rfl
      rw [ew] at hr
      refine ⟨b, some ⟨b, off, none⟩, cap, _, hr, .inr ⟨off, cap, _, by simp, block_setCell h2 _ _, by simpa using hroom, h4, by simpa using h5, fun j hj => ?_⟩, (Only.refl (fun k => k = b) w).setCell (p := ⟨b, off + xs.length, none⟩) (.inr rfl) _, .inl rfl⟩
      rw [List.length_append] at hj
      have hj' : j < xs.length + 1 := hj
      by_cases he : j = xs.length
      · subst he
        rw [Array.getElem?_setIfInBounds, if_pos rfl, if_pos (by omega)]
        simp
      · have e1 : (xs ++ [x]).getD j 0 = xs.getD j 0 := by rw [List.getD_eq_getElem?_getD, List.getD_eq_getElem?_getD, List.getElem?_append_left (by omega)]
        rw [e1, ← h6 j (by omega), Array.getElem?_setIfInBounds_ne (by omega)]
    · obtain ⟨v', w', hrun, r1, r2⟩ := run_append_arg_grows (P := P) w t ty 2 i (.int .i64 0) 1 8 ht hi hz0 hz1 hz2 rfl (by decide) ⟨b, off, none⟩ xs.length cap (xs.map (Value.int .i64)) (by simp) (fun j u hj => by
          rw [Addr.add_lit, cell_of_block h2]
          simp at hj
          obtain ⟨a, ha, rfl⟩ := hj
          have hlt : j < xs.length := (List.getElem?_eq_some_iff.1 ha).1
          rw [h6 j hlt]
          simp [ha]) ⟨B, 0, none⟩ 1 c [.int .i64 x] rfl hnews (by omega) h63 (by omega)
      rcases r1.2 with ⟨_, h0⟩ | ⟨g', cap', cur', rfl, hb0, hg', rest⟩
      · omega
      · refine ⟨g', some ⟨g', 0, none⟩, cap', w', hrun, cut_of_grow (n := xs.length + 1) ⟨⟨by simp, .inr ⟨g', cap', cur', rfl, Nat.zero_le _, hg', ?_⟩⟩, fun k hk => by simp [Value.ownBlock] at hk; exact hk.symm⟩, ⟨r2.os, r2.tape, r2.output, r2.size, fun k hk _ => r2.block k hk (by simp)⟩, .inr hb0⟩
        rw [List.map_append]
        exact rest

/-- The same in a row of operations. -/
theorem wpList_append_cut {ops : Array Oper} {rest : List Oper} {o : Oper} {a : Act} {Q : Exit → Act → World → Prop} (hgd : o.guard = none) (s x : Operand) (t : TypeId)
    (hop : o.op = .call { callee := .builtin .append, args := #[s, x], argTypes := #[t, t] })
    (ht : P.underlying t = some (.slice 2)) (hinfo : (P.info? 2).map (fun i => (i.zero, i.size, i.bytes)) = some (some (.int .i64 0), 1, 8))
    (v : Value) (b : Nat) (xs : List Int) (hs : a.eval s = v) (h : CutIs w v b xs)
    (B c : Nat) (n : Int) (hx : a.eval x = .slice (some ⟨B, 0, none⟩) 1 c) (hnew : w.cell? ⟨B, 0, none⟩ = some (.int .i64 n)) (hn : xs.length ≤ 100000)
    (hK : ∀ b' ao cap' w', CutIs w' (.slice ao (xs.length + 1 : Nat) cap') b' (xs ++ [n]) → Only (fun k => k = b) w w' → (b' = b ∨ w.heap.size ≤ b') → wpList P ops Q rest (a.put o.dst (.slice ao (xs.length + 1 : Nat) cap')) w') :
    wpList P ops Q (o :: rest) a w := by
  refine wpList_plain hgd fun _ hK' => ?_
  obtain ⟨b', ao, cap', w', hrun, r1, r2, r3⟩ := run_append_cut (P := P) w t o.type ht hinfo v b xs h B c n hnew hn
  unfold Oper.wp execOp
  simp only [hop, resolve, invoke, builtin, Sem.run_bind, Sem.run_pure, Result.andThen_ok, List.map_toArray, List.map_cons, List.map_nil, hs, hx, hrun]
  exact hK' _ _ (hK b' ao cap' w' r1 r2 r3)
end
end Go.Sept
