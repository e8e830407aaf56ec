/-
  Two slices of ints, in two fields of one block, that grow by append in one statement. Conditions: all of it lies in blocks that are not the same.
-/
import Derived.Test.YthihbkhgemdpdaaAfter6
import Derived.Test.YthihbkhgemdpdaaSeq
namespace Go.Sept
open Go.RowKit
theorem Grow.own_lt {e : TypeId} {size : Nat} {w : World} {v : Value} {b n c : Nat} {xs : List Value} (h : Grow e size w v b n xs) (hv : v.ownBlock = some c) : c < w.heap.size := by
  rcases h.own.2 with ⟨rfl, _⟩ | ⟨g, cap, cur, rfl, _, hg, _⟩
  · cases hv
  · simp [Value.ownBlock] at hv
    subst hv
    exact lt_of_block hg
/-- Where what has turned is not the slice's own block. -/
theorem Grow.keep {e : TypeId} {size : Nat} {w w' : World} {v : Value} {b n : Nat} {xs : List Value} {S : Nat → Prop} (h : Grow e size w v b n xs) (ho : Only S w w') (hb : ∀ c, v.ownBlock = some c → ¬ S c) : Grow e size w' v b n xs := by
  refine ⟨⟨h.own.1, ?_⟩, h.spot⟩
  rcases h.own.2 with hn | ⟨g, cap, cur, rfl, hb0, hg, rest⟩
  · exact .inl hn
  · exact .inr ⟨g, cap, cur, rfl, hb0, (ho.block g (lt_of_block hg) (hb g rfl)).trans hg, rest⟩
/-- A slice without a block has any. -/
theorem Grow.spot_at {e : TypeId} {size : Nat} {w : World} {v : Value} {b n : Nat} {xs : List Value} (h : Grow e size w v b n xs) (B : Nat) : ∃ b0, Grow e size w v b0 n xs ∧ (v.ownBlock = some b0 ∨ B ≤ b0) := by
  cases hv : v.ownBlock with
  | none => exact ⟨B, ⟨h.own, fun k hk => by rw [hv] at hk; cases hk⟩, .inr (Nat.le_refl _)⟩
  | some c => exact ⟨c, ⟨h.own, fun k hk => by rw [hv] at hk; exact (Option.some.inj hk).symm⟩, .inl rfl⟩
/-- A slice's own block. -/
abbrev Own (v : Value) (k : Nat) : Prop := v.ownBlock = some k
end Go.Sept

namespace Go.Proofs.Ythihbkhgemdpdaa
open Go.RowKit Go.Sept

abbrev lookO (gv pv : Value) : Obj := .cells #[gv, pv] 41
abbrev fsts (l : List (Int × Int)) : List Value := l.map fun x => .int .i64 x.1
abbrev snds (l : List (Int × Int)) : List Value := l.map fun x => .int .i64 x.2

structure Pair (w : World) (U : Nat) (gv pv : Value) (l : List (Int × Int)) : Prop where
  blk : w.heap[U]? = some (lookO gv pv)
  g : ∃ b, Grow 3 1 w gv b l.length (fsts l)
  p : ∃ b, Grow 3 1 w pv b l.length (snds l)
  ap : ∀ k, Own gv k → Own pv k → False

section
variable {w W w1 W1 w2 : World} {U b c : Nat} {gv pv : Value} {l : List (Int × Int)} {n p : Int}
theorem Pair.gl (h : Pair w U gv pv l) {k : Nat} (hk : Own gv k) : k < w.heap.size := h.g.choose_spec.own_lt hk
theorem Pair.pl (h : Pair w U gv pv l) {k : Nat} (hk : Own pv k) : k < w.heap.size := h.p.choose_spec.own_lt hk
theorem Pair.gU (h : Pair w U gv pv l) : ¬ Own gv U := h.g.choose_spec.far (by decide) h.blk
theorem Pair.pU (h : Pair w U gv pv l) : ¬ Own pv U := h.p.choose_spec.far (by decide) h.blk
theorem Pair.keep {S : Nat → Prop} (h : Pair w U gv pv l) (ho : Only S w w1) (hS : ∀ k, (k = U ∨ Own gv k ∨ Own pv k) → ¬ S k) : Pair w1 U gv pv l :=
  ⟨(ho.block U (lt_of_block h.blk) (hS U (.inl rfl))).trans h.blk, ⟨_, h.g.choose_spec.keep ho (fun k hk => hS k (.inr (.inl hk)))⟩, ⟨_, h.p.choose_spec.keep ho (fun k hk => hS k (.inr (.inr hk)))⟩, h.ap⟩

/-- Behind the first append. -/
structure Half (w : World) (w1 : World) (U : Nat) (gv pv gv' : Value) (l : List (Int × Int)) (n : Int) : Prop where
  blk : w1.heap[U]? = some (lookO gv pv)
  g : ∃ b, Grow 3 1 w1 gv' b (l.length + 1) (fsts l ++ [.int .i64 n])
  p : ∃ b, Grow 3 1 w1 pv b l.length (snds l)
  only : Only (fun k => Own gv k) w w1
  new : ∀ k, Own gv' k → Own gv k ∨ w.heap.size ≤ k

theorem half_of (h : Pair w U gv pv l) (hW : Only (fun _ => False) w W) {b0 : Nat} (h0 : Own gv b0 ∨ w.heap.size ≤ b0) (hg : Grow 3 1 w1 (.slice (some ⟨b, 0, none⟩) (l.length + 1 : Nat) c) b (l.length + 1) (fsts l ++ [.int .i64 n])) (ho : Only (fun k => Own gv k) W w1) (hb : b = b0 ∨ W.heap.size ≤ b) :
    Half w w1 U gv pv (.slice (some ⟨b, 0, none⟩) (l.length + 1 : Nat) c) l n := by
  have hO : Only (fun k => Own gv k) w w1 := (hW.mono (T := fun k => Own gv k) (fun _ _ h => h.elim)).chain ho (fun _ _ h => h)
  refine ⟨(hO.block U (lt_of_block h.blk) h.gU).trans h.blk, ⟨b, hg⟩, ⟨_, h.p.choose_spec.keep hO (fun k hk e => h.ap k e hk)⟩, hO, fun k hk => ?_⟩
  simp [Own, Value.ownBlock] at hk
  subst hk
  have z := hW.size
  rcases hb with rfl | hb
  · exact h0
  · exact .inr (by omega)

/-- Blocks that are new behind w stay, by the first append. -/
theorem newer (h : Pair w U gv pv l) (ho : Only (fun k => Own gv k) W w1) : ∀ (k : Nat) (o : Obj), w.heap.size ≤ k → W.heap[k]? = some o → w1.heap[k]? = some o := fun k o hk hW => (ho.block k (lt_of_block hW) (fun e => by have := h.gl e; omega)).trans hW

theorem pair_of {gv' : Value} (h : Pair w U gv pv l) (hh : Half w w1 U gv pv gv' l n) (hW : Only (fun _ => False) w1 W1) {b0 : Nat} (h0 : Own pv b0 ∨ w1.heap.size ≤ b0) (hg : Grow 3 1 w2 (.slice (some ⟨b, 0, none⟩) (l.length + 1 : Nat) c) b (l.length + 1) (snds l ++ [.int .i64 p])) (ho : Only (fun k => Own pv k) W1 w2) (hb : b = b0 ∨ W1.heap.size ≤ b) :
    w2.heap[U]? = some (lookO gv pv) ∧ Pair ((w2.setCell ⟨U, 0, none⟩ gv').setCell ⟨U, 1, none⟩ (.slice (some ⟨b, 0, none⟩) (l.length + 1 : Nat) c)) U gv' (.slice (some ⟨b, 0, none⟩) (l.length + 1 : Nat) c) (l ++ [(n, p)]) ∧
      Only (fun k => k = U ∨ Own gv k ∨ Own pv k) w ((w2.setCell ⟨U, 0, none⟩ gv').setCell ⟨U, 1, none⟩ (.slice (some ⟨b, 0, none⟩) (l.length + 1 : Nat) c)) ∧
      ∀ k, (Own gv' k ∨ Own (.slice (some ⟨b, 0, none⟩) (l.length + 1 : Nat) c) k) → (Own gv k ∨ Own pv k) ∨ w.heap.size ≤ k := by
  have hU := lt_of_block h.blk
  have z1 := hh.only.size
  have z2 := hW.size
  have hO2 : Only (fun k => Own pv k) w1 w2 := (hW.mono (T := fun k => Own pv k) (fun _ _ h => h.elim)).chain ho (fun _ _ h => h)
  have z3 := hO2.size
  have hb2 : w2.heap[U]? = some (lookO gv pv) := (hO2.block U (by omega) h.pU).trans hh.blk
  have hO3 : Only (· = U) w2 ((w2.setCell ⟨U, 0, none⟩ gv').setCell ⟨U, 1, none⟩ (.slice (some ⟨b, 0, none⟩) (l.length + 1 : Nat) c)) := ((Only.self U w2).own 0 _).own 1 _
  have gl : ∀ k, Own gv' k → k < w1.heap.size := fun k hk => hh.g.choose_spec.own_lt hk
  have pb : Own pv b ∨ w1.heap.size ≤ b := by
    rcases hb with rfl | hb
    · exact h0
    · exact .inr (by omega)
  have gU' : ∀ k, Own gv' k → k ≠ U := fun k hk e => by
    subst e
    rcases hh.new k hk with h9 | h9
    · exact h.gU h9
    · omega
  have bU : b ≠ U := fun e => by
    subst e
    rcases pb with h9 | h9
    · exact h.pU h9
    · omega
  have gp : ∀ k, Own gv' k → ¬ Own pv k := fun k hk e => by
    rcases hh.new k hk with h9 | h9
    · exact h.ap k h9 e
    · have := h.pl e
      omega
  refine ⟨hb2, ⟨?_, ⟨hh.g.choose, ?_⟩, ⟨b, ?_⟩, fun k hk e => ?_⟩, ?_, ?_⟩
  · rw [block_setCell (block_setCell hb2 0 gv') 1 _]
    rfl
  · have h9 := (hh.g.choose_spec.keep hO2 gp).keep hO3 gU'
    simpa using h9
  · have h9 := hg.keep hO3 (fun k hk e => by
      simp [Value.ownBlock] at hk
      exact bU (hk.trans e))
    simpa using h9
  · simp [Own, Value.ownBlock] at e
    subst e
    rcases pb with h9 | h9
    · exact gp _ hk h9
    · have := gl _ hk
      omega
  · refine ((hh.only.mono (T := fun k => k = U ∨ Own gv k ∨ Own pv k) (fun _ _ h => .inr (.inl h))).chain hO2 (fun _ _ h => .inr (.inr h))).chain hO3 (fun _ _ h => .inl h)
  · rintro k (hk | hk)
    · rcases hh.new k hk with h9 | h9
      · exact .inl (.inl h9)
      · exact .inr h9
    · simp [Own, Value.ownBlock] at hk
      subst hk
      rcases pb with h9 | h9
      · exact .inl (.inr h9)
      · exact .inr (by omega)
end
end Go.Proofs.Ythihbkhgemdpdaa
