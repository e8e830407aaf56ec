/-
  A map of ints to slices of ints, and a slice of ints beside it, all of the call's own making. Conditions: none; no program's function is named here.
-/
import Derived.Test.YtpmchlnnlanokaaGrow
import Derived.Maps.OwnSet
namespace Go.Sept
open Go.RowKit

/-- How an element reads: as itself. -/
def hdR (v : Value) : Option (DataW Value × List MemPlace) := some (.held v, [])
/-- Block B is a map of ints, of at most n entries, that answers g k at k. -/
def MapIs (P : Program) (w : World) (B n : Nat) (g : Int → Value) : Prop :=
  ∃ D : DataW Value, w.ownsMap P 3 hdR B n D ∧ ∀ k : Int, D.atKey (.int .i64 k) (.held (.slice none 0 0)) = .held (g k)
def fits (k : Int) : Prop := -9223372036854775808 ≤ k ∧ k ≤ 9223372036854775807
theorem fits.wf {k : Int} (h : fits k) : (Lit.int .i64 k).wf = true := WalkArith.wf_i64 ⟨h.1, h.2⟩

section
variable {P : Program} {w w' : World} {B n : Nat} {g : Int → Value} {S : Nat → Prop}
theorem MapIs.made (P : Program) (w : World) : MapIs P (w.alloc (.map #[] 0)) w.heap.size 0 (fun _ => .slice none 0 0) := ⟨_, World.ownsMap_made _ _ _ _, fun _ => rfl⟩
theorem MapIs.block (h : MapIs P w B n g) : ∃ es clock, w.heap[B]? = some (.map es clock) := by
  obtain ⟨D, ⟨es, clock, hb, _⟩, _⟩ := h
  exact ⟨es, clock, hb⟩
theorem MapIs.only (h : MapIs P w B n g) (ho : Only S w w') (hB : ¬ S B) : MapIs P w' B n g := by
  obtain ⟨D, ⟨es, clock, hb, r⟩, h2⟩ := h
  exact ⟨D, ⟨es, clock, (ho.block B (lt_of_block hb) hB).trans hb, r⟩, h2⟩
theorem only_of_grown {row : Nat} (h : w.grownBy w' (some row)) : Only (fun b => b = row) w w' := ⟨h.os, h.tape, h.output, h.size, fun k hk hs => h.block k hk (fun e => hs (Option.some.inj e))⟩

theorem MapIs.look (h3 : P.underlying 3 = some (.int .i64)) {t : TypeId} {E : TypeId} (ht : P.underlying t = some (.map 3 E)) (h : MapIs P w B n g) (hz : (zeroValue E).run P w = .ok (.slice none 0 0) w) {k : Int} (hk : fits k) : (Instr.lookup t (.map (some B)) (.int .i64 k) false).run P w = .ok (g k) w := by
  obtain ⟨D, ho, hD⟩ := h
  obtain ⟨v, ps, hrun, hv⟩ := ho.lookup (Maps.int_keyed h3) ht hz (zd := .held (.slice none 0 0)) rfl (Maps.keyOf_int_mk h3 hk.wf)
  rw [hD] at hv
  unfold hdR at hv
  injection hv with hv
  injection hv with hv _
  injection hv with hv
  rw [hrun, hv]
theorem MapIs.store (h3 : P.underlying 3 = some (.int .i64)) {t : TypeId} {E : TypeId} (ht : P.underlying t = some (.map 3 E)) (h : MapIs P w B n g) (hn : n < maxLen) {k : Int} (hk : fits k) (v : Value) :
    ∃ w', (Instr.mapUpdate t (.map (some B)) (.int .i64 k) v).run P w = .ok () w' ∧ MapIs P w' B (n + 1) (fun i => if i = k then v else g i) ∧ Only (fun b => b = B) w w' := by
  obtain ⟨D, ho, hD⟩ := h
  have hkey := Maps.keyOf_int_mk h3 hk.wf
  obtain ⟨w', hrun, ho', hgr⟩ := ho.update (Maps.int_keyed h3) ht hn (val := v) (d := .held v) (ps := []) hkey rfl
  refine ⟨w', hrun, ⟨_, ho', fun i => ?_⟩, only_of_grown hgr⟩
  show _ = DataW.held (if _ then _ else _)
  by_cases e : i = k
  · rw [if_pos e, e]
    exact Maps.atKey_put_same ho.isMap ((Maps.int_keyed h3).key hkey) _ _
  · rw [if_neg e, Maps.atKey_put_other (fun e2 => e (by injection e2))]
    exact hD i
theorem MapIs.drop (h3 : P.underlying 3 = some (.int .i64)) {t : TypeId} {E : TypeId} (ht : P.underlying t = some (.map 3 E)) (h : MapIs P w B n g) {k : Int} (hk : fits k) (ty : TypeId) :
    ∃ w', (Builtin.delete_ #[t, 3] ty #[.map (some B), .int .i64 k]).run P w = .ok (.tuple #[]) w' ∧ MapIs P w' B n (fun i => if i = k then .slice none 0 0 else g i) ∧ Only (fun b => b = B) w w' := by
  obtain ⟨D, ho, hD⟩ := h
  obtain ⟨w', hrun, ho', hgr⟩ := ho.drop (Maps.int_keyed h3) ht (Maps.keyOf_int_mk h3 hk.wf) ty
  refine ⟨w', hrun, ⟨_, ho', fun i => ?_⟩, only_of_grown hgr.grown⟩
  show _ = DataW.held (if _ then _ else _)
  by_cases e : i = k
  · rw [if_pos e, e]
    exact Maps.atKey_del_same _
  · rw [if_neg e, Maps.atKey_del_other (fun e2 => e (by injection e2))]
    exact hD i
/-- A delete, as the walk's next operation. -/
theorem wpList_drop (h3 : P.underlying 3 = some (.int .i64)) {t : TypeId} {E : TypeId} (ht : P.underlying t = some (.map 3 E)) {ops : Array Oper} {rest : List Oper} {o : Oper} {a : Act} {Q : Exit → Act → World → Prop} (hg : o.guard = none) (m x : Operand) (hop : o.op = Op.call { callee := Callee.builtin Builtin.delete, args := #[m, x], argTypes := #[t, 3] })
    (h : MapIs P w B n g) {k : Int} (hk : fits k) (hm : a.eval m = .map (some B)) (hx : a.eval x = .int .i64 k)
    (hK : ∀ w', MapIs P w' B n (fun i => if i = k then .slice none 0 0 else g i) → Only (fun b => b = B) w w' → wpList P ops Q rest (a.put o.dst (.tuple #[])) w') : wpList P ops Q (o :: rest) a w := by
  refine wpList_plain hg fun K' hK' => ?_
  obtain ⟨w', hrun, r1, r2⟩ := h.drop h3 ht hk o.type
  unfold Oper.wp
  simp [execOp, hop, resolve, invoke, builtin, hm, hx, hrun, Result.andThen]
  exact hK' _ _ (hK w' r1 r2)
end

theorem Grow.own_in {e : TypeId} {size : Nat} {w : World} {v : Value} {b n a : Nat} {xs : List Value} (h : Grow e size w v b n xs) (ha : v.ownBlock = some a) : a = b ∧ ∃ cs, w.heap[a]? = some (.cells cs e) := by
  refine ⟨h.spot a ha, ?_⟩
  rcases h.own.2 with ⟨rfl, _⟩ | ⟨g, cap, cur, rfl, _, hg, _⟩
  · cases ha
  · simp [Value.ownBlock] at ha
    subst ha
    exact ⟨cur, hg⟩
/-- Its first ones. -/
theorem Grow.cut {e : TypeId} {size : Nat} {w : World} {b n cap m : Nat} {xs : List Value} (h : Grow e size w (.slice (some ⟨b, 0, none⟩) n cap) b n xs) (hm : m ≤ n) : Grow e size w (.slice (some ⟨b, 0, none⟩) m cap) b m (xs.take (m * size)) := by
  refine ⟨⟨?_, ?_⟩, fun k hk => by simp [Value.ownBlock] at hk; exact hk.symm⟩
  · rw [List.length_take, h.own.1]
    exact Nat.min_eq_left (Nat.mul_le_mul_right _ hm)
  · rcases h.own.2 with ⟨h1, _⟩ | ⟨g, cap', cur, h1, h2, h4, h5, h6, h7, h8⟩
    · cases h1
    · injection h1 with h9 h10 h11
      injection h9 with h9
      injection h9 with h9 _ _
      subst h9 h11
      refine .inr ⟨b, cap, cur, rfl, h2, h4, Nat.le_trans hm h5, h6, h7, ?_⟩
      rw [← h8, List.take_take, Nat.min_eq_left (Nat.mul_le_mul_right _ hm)]

def intsV (xs : List Int) : List Value := xs.map (Value.int .i64)
/-- The map, its slices, and the slice beside it. -/
structure LdSt (P : Program) (w0 wx : World) (B n : Nat) (g : Int → Value) (f : Int → List Int) (v : Value) (b : Nat) (xs : List Int) : Prop where
  map : MapIs P wx B n g
  row : ∀ k, Grow 3 1 wx (g k) ((g k).ownBlock.getD B) (f k).length (intsV (f k))
  own : Grow 3 1 wx v b xs.length (intsV xs)
  apart : ∀ i j, i ≠ j → ∀ a, (g i).ownBlock = some a → (g j).ownBlock ≠ some a
  off : ∀ i a, (g i).ownBlock = some a → a ≠ b
  lowB : w0.heap.size ≤ B
  lowb : w0.heap.size ≤ b
  lt : b < wx.heap.size
  lowg : ∀ i a, (g i).ownBlock = some a → w0.heap.size ≤ a
  only : Only (fun _ => False) w0 wx

section
variable {P : Program} {w0 wx wy : World} {B n : Nat} {g : Int → Value} {f : Int → List Int} {v : Value} {b : Nat} {xs : List Int}
/-- The map's block is no slice's. -/
theorem LdSt.notB (h : LdSt P w0 wx B n g f v b xs) {e : TypeId} {size : Nat} {u : Value} {c m : Nat} {ys : List Value} (hg : Grow e size wx u c m ys) : ¬ u.ownBlock = some B := by
  intro e1
  obtain ⟨_, cs, hc⟩ := hg.own_in e1
  obtain ⟨es, clock, hb⟩ := h.map.block
  rw [hb] at hc
  cases hc
theorem LdSt.rowlt (h : LdSt P w0 wx B n g f v b xs) {k : Int} {a : Nat} (ha : (g k).ownBlock = some a) : a < wx.heap.size := by
  obtain ⟨_, cs, hc⟩ := (h.row k).own_in ha
  exact lt_of_block hc
/-- Another one's block turns. -/
theorem LdSt.still (h : LdSt P w0 wx B n g f v b xs) {S : Nat → Prop} (ho : Only S wx wy) (hB : ¬ S B) (hb : ¬ S b) (hr : ∀ k a, (g k).ownBlock = some a → ¬ S a) (hw : ∀ k, k < w0.heap.size → ¬ S k) : LdSt P w0 wy B n g f v b xs :=
  ⟨h.map.only ho hB, fun k => (h.row k).only ho (by
    cases e : (g k).ownBlock with
    | none => exact hB
    | some a => exact hr k a e), h.own.only ho hb, h.apart, h.off, h.lowB, h.lowb, Nat.lt_of_lt_of_le h.lt ho.size, h.lowg, h.only.chain ho (fun i hi hs => hw i hi hs)⟩
theorem LdSt.new (h : LdSt P w0 wx B n g f v b xs) (ho : Only (fun _ => False) wx wy) : LdSt P w0 wy B n g f v b xs := h.still ho (fun h => h) (fun h => h) (fun _ _ _ h => h) (fun _ _ h => h)
/-- Its slice grows by one. -/
theorem LdSt.push (h : LdSt P w0 wx B n g f v b xs) {v' : Value} {b' : Nat} {x : Int} (hg : Grow 3 1 wy v' b' (xs.length + 1) (intsV xs ++ [.int .i64 x])) (ho : Only (fun k => v.ownBlock = some k) wx wy) (hb : b' = b ∨ wx.heap.size ≤ b') : LdSt P w0 wy B n g f v' b' (xs ++ [x]) := by
  have hvB := h.notB h.own
  have hoff : ∀ k a, (g k).ownBlock = some a → ¬ v.ownBlock = some a := fun k a ha e => h.off k a ha (h.own.spot a e)
  refine ⟨h.map.only ho hvB, fun k => (h.row k).only ho ?_, ?_, h.apart, fun i a ha => ?_, h.lowB, ?_, hg.lt (Nat.succ_pos _), h.lowg, h.only.chain ho (fun i hi e => ?_)⟩
  · cases e : (g k).ownBlock with
    | none => exact hvB
    | some a => exact hoff k a e
  · have e : (xs ++ [x]).length = xs.length + 1 := by simp
    rw [e, show intsV (xs ++ [x]) = intsV xs ++ [.int .i64 x] by simp [intsV]]
    exact hg
  · rcases hb with rfl | hb
    · exact h.off i a ha
    · have := h.rowlt ha
      omega
  · rcases hb with rfl | hb
    · exact h.lowb
    · exact Nat.le_trans h.only.size hb
  · have := h.own.spot i e
    have := h.lowb
    omega
/-- Its slice is cut. -/
theorem LdSt.pop {cap m : Nat} (h : LdSt P w0 wx B n g f (.slice (some ⟨b, 0, none⟩) xs.length cap) b xs) (hm : m ≤ xs.length) : LdSt P w0 wx B n g f (.slice (some ⟨b, 0, none⟩) m cap) b (xs.take m) := by
  refine ⟨h.map, h.row, ?_, h.apart, h.off, h.lowB, h.lowb, h.lt, h.lowg, h.only⟩
  have h1 := h.own.cut hm
  rw [List.length_take, Nat.min_eq_left hm]
  rw [Nat.mul_one, intsV, ← List.map_take] at h1
  exact h1
/-- One of the map's slices grows by one, and is stored. -/
theorem LdSt.store (h : LdSt P w0 wx B n g f v b xs) {k x : Int} {v' : Value} {b' n' : Nat} {wz : World} (hg : Grow 3 1 wy v' b' ((f k).length + 1) (intsV (f k) ++ [.int .i64 x])) (ho : Only (fun a => (g k).ownBlock = some a) wx wy) (hb : b' = (g k).ownBlock.getD B ∨ wx.heap.size ≤ b')
    (hm : MapIs P wz B n' (fun i => if i = k then v' else g i)) (ho2 : Only (fun a => a = B) wy wz) : LdSt P w0 wz B n' (fun i => if i = k then v' else g i) (fun i => if i = k then f k ++ [x] else f i) v b xs := by
  have hnB : ∀ {e : TypeId} {size : Nat} {u : Value} {c m : Nat} {ys : List Value}, Grow e size wx u c m ys → ¬ u.ownBlock = some B := fun hg => h.notB hg
  have hkB := h.notB (h.row k)
  have hbk : ¬ (g k).ownBlock = some b := fun e => h.off k b e rfl
  obtain ⟨es, clock, hB1⟩ := h.map.block
  have hB2 : wy.heap[B]? = some (.map es clock) := (ho.block B (lt_of_block hB1) hkB).trans hB1
  have hvlt := hg.lt (Nat.succ_pos _)
  have hv'B : ¬ v'.ownBlock = some B := fun e => by
    obtain ⟨_, cs, hc⟩ := hg.own_in e
    rw [hB2] at hc
    cases hc
  obtain ⟨cap', hv', _⟩ := hg.cells (Nat.succ_pos _)
  have hvo : v'.ownBlock = some b' := by rw [hv']; rfl
  have hb'B : b' ≠ B := fun e => hv'B (by rw [hvo, e])
  have hbe : (g k).ownBlock = some b' ∨ wx.heap.size ≤ b' := by
    rcases hb with hb | hb
    · cases e : (g k).ownBlock with
      | none => rw [e] at hb; exact absurd hb hb'B
      | some a => rw [e] at hb; exact .inl (by rw [hb]; rfl)
    · exact .inr hb
  have hbB : b ≠ B ∨ xs = [] := by
    by_cases hx : xs = []
    · exact .inr hx
    · refine .inl fun e => ?_
      obtain ⟨c, hc, _⟩ := h.own.cells (List.length_pos_iff.2 hx)
      exact h.notB h.own (by rw [hc, ← e]; rfl)
  have hown : Grow 3 1 wz v b xs.length (intsV xs) := by
    have h1 := h.own.only ho hbk
    rcases h1.own.2 with ⟨hv0, hx0⟩ | ⟨gg, cap, cur, hv0, _⟩
    · subst hv0
      have : xs = [] := List.length_eq_zero_iff.1 hx0
      subst this
      exact Grow.nil _ _ _ _
    · exact h1.only ho2 (fun e => h.notB h.own (by rw [hv0, ← e, ← h1.spot gg (by rw [hv0]; rfl)]; rfl))
  refine ⟨hm, fun i => ?_, hown, fun i j hij a hi => ?_, fun i a hi => ?_, h.lowB, h.lowb, ?_, fun i a hi => ?_, ?_⟩
  · by_cases e : i = k
    · simp only [if_pos e]
      rw [hvo, Option.getD_some, show intsV (f k ++ [x]) = intsV (f k) ++ [.int .i64 x] by simp [intsV], show (f k ++ [x]).length = (f k).length + 1 by simp]
      exact hg.only ho2 hb'B
    · simp only [if_neg e]
      rcases (h.row i).own.2 with ⟨hv0, hx0⟩ | ⟨gg, cap, cur, hv0, _⟩
      · rw [hv0]
        have : f i = [] := List.length_eq_zero_iff.1 hx0
        rw [this]
        exact Grow.nil _ _ _ _
      · have hgo : (g i).ownBlock = some gg := by rw [hv0]; rfl
        refine ((h.row i).only ho ?_).only ho2 ?_
        · rw [hgo, Option.getD_some]
          exact fun e2 => h.apart i k e gg hgo e2
        · rw [hgo, Option.getD_some]
          exact fun e2 => h.notB (h.row i) (by rw [hgo, e2])
  · have far : ∀ j, j ≠ k → ∀ a, (g j).ownBlock = some a → a ≠ b' := fun j hj a ha e => by
      subst e
      rcases hbe with hb | hb
      · exact h.apart j k hj a ha hb
      · have := h.rowlt ha
        omega
    by_cases e : i = k
    · simp only [if_pos e] at hi
      rw [hvo] at hi
      injection hi with hi
      subst hi
      have hj : j ≠ k := fun e2 => hij (e.trans e2.symm)
      simp only [if_neg hj]
      exact fun e2 => far j hj _ e2 rfl
    · simp only [if_neg e] at hi
      by_cases e2 : j = k
      · simp only [if_pos e2]
        rw [hvo]
        intro e3
        injection e3 with e3
        exact far i e a hi e3.symm
      · simp only [if_neg e2]
        exact h.apart i j hij a hi
  · by_cases e : i = k
    · simp only [if_pos e] at hi
      rw [hvo] at hi
      injection hi with hi
      subst hi
      rcases hbe with hb | hb
      · exact h.off k _ hb
      · have := h.lt
        omega
    · simp only [if_neg e] at hi
      exact h.off i a hi
  · have := h.lt
    have := ho.size
    have := ho2.size
    omega
  · by_cases e : i = k
    · simp only [if_pos e] at hi
      rw [hvo] at hi
      injection hi with hi
      subst hi
      rcases hbe with hb | hb
      · exact h.lowg k _ hb
      · exact Nat.le_trans h.only.size hb
    · simp only [if_neg e] at hi
      exact h.lowg i a hi
  · refine (h.only.chain ho (fun i hi e => ?_)).chain ho2 (fun i hi e => ?_)
    · have := h.lowg k i e
      omega
    · have := h.lowB
      omega
/-- One of the map's keys is struck. -/
theorem LdSt.drop (h : LdSt P w0 wx B n g f v b xs) {k : Int} (hm : MapIs P wy B n (fun i => if i = k then .slice none 0 0 else g i)) (ho : Only (fun a => a = B) wx wy) (hbB : b ≠ B) : LdSt P w0 wy B n (fun i => if i = k then .slice none 0 0 else g i) (fun i => if i = k then [] else f i) v b xs := by
  refine ⟨hm, fun i => ?_, h.own.only ho hbB, fun i j hij a hi => ?_, fun i a hi => ?_, h.lowB, h.lowb, Nat.lt_of_lt_of_le h.lt ho.size, fun i a hi => ?_, h.only.chain ho (fun i hi e => by have := h.lowB; omega)⟩
  · by_cases e : i = k
    · simp only [if_pos e]
      exact Grow.nil _ _ _ _
    · simp only [if_neg e]
      rcases (h.row i).own.2 with ⟨hv0, hx0⟩ | ⟨gg, cap, cur, hv0, _⟩
      · rw [hv0]
        have : f i = [] := List.length_eq_zero_iff.1 hx0
        rw [this]
        exact Grow.nil _ _ _ _
      · have hgo : (g i).ownBlock = some gg := by rw [hv0]; rfl
        refine (h.row i).only ho ?_
        rw [hgo, Option.getD_some]
        exact fun e2 => h.notB (h.row i) (by rw [hgo, e2])
  · by_cases e : i = k
    · simp only [if_pos e] at hi
      cases hi
    · simp only [if_neg e] at hi
      by_cases e2 : j = k
      · simp only [if_pos e2]
        intro e3
        cases e3
      · simp only [if_neg e2]
        exact h.apart i j hij a hi
  · by_cases e : i = k
    · simp only [if_pos e] at hi
      cases hi
    · simp only [if_neg e] at hi
      exact h.off i a hi
  · by_cases e : i = k
    · simp only [if_pos e] at hi
      cases hi
    · simp only [if_neg e] at hi
      exact h.lowg i a hi
end

/-- An empty map. -/
theorem LdSt.made (P : Program) (w0 : World) : LdSt P w0 (w0.alloc (.map #[] 0)) w0.heap.size 0 (fun _ => .slice none 0 0) (fun _ => []) (.slice none 0 0) w0.heap.size [] :=
  ⟨MapIs.made P w0, fun _ => Grow.nil _ _ _ _, Grow.nil _ _ _ _, fun _ _ _ a h => (by cases h), fun _ a h => (by cases h), Nat.le_refl _, Nat.le_refl _, by simp, fun _ a h => (by cases h), (Only.refl _ _).alloc _⟩
/-- A slice of one beside it. -/
theorem LdSt.open {P : Program} {w0 wx : World} {B n : Nat} {g : Int → Value} {f : Int → List Int} {b : Nat} (h : LdSt P w0 wx B n g f (.slice none 0 0) b []) (x : Int) :
    LdSt P w0 (wx.alloc (.cells #[.int .i64 x] 3)) B n g f (.slice (some ⟨wx.heap.size, 0, none⟩) 1 1) wx.heap.size [x] := by
  have h1 := h.new ((Only.refl (fun _ => False) wx).alloc (.cells #[.int .i64 x] 3))
  exact ⟨h1.map, h1.row, Grow.made wx 1 [.int .i64 x] (by unfold maxLen; decide) rfl, h1.apart, fun i a ha e => by have := h.rowlt ha; omega, h.lowB, h.only.size, by simp, h.lowg, h1.only⟩
end Go.Sept
