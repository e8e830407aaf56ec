/-
  septumlaw14's look: a body that asks for the best, and for each thread's state and priority. Conditions: all of it lies in blocks that are not the same.
-/
import Derived.Test.YtdmgkmkhonmgbaaGreatBest14
import Derived.Deep.RegionWith
namespace Go.Sept
open Go.RowKit
def getsT (n m : Nat) (l : List Int) : (r : Nat) → Int → Tree (List Int) (2 * r)
  | 0, _ => .ret l
  | r + 1, t => (getT n m t 0).bind fun _ => (getT n m t 2).bind fun _ => getsT n m l r (t + 1)
def lookT (n m : Nat) (N : Int) (but : List Int) (k r : Nat) : Tree (List Int) (2 * r + (dB k + 3)) := (bestT n m N but k).bind fun l => getsT n m l r 0
end Go.Sept

namespace Go.Proofs.YtdmgkmkhonmgbaaGreat
open Go.RowKit Go.Sept

/-- A list that its owner lets grow, of j elements at most. -/
def gBag (v : Value) (j : Nat) : Bag where
  V := fun k => v.ownBlock = some k
  P := fun w => ∃ b n xs, Grow 2 1 w v b n xs ∧ n ≤ j
  low := fun _ k h hk => by
    obtain ⟨b, n, xs, h, _⟩ := h
    exact Grow.low14 h hk
  keep := fun _ _ _ h ho hv => by
    obtain ⟨b, n, xs, h, hn⟩ := h
    exact ⟨b, n, xs, Grow.keep14 h ho hv, hn⟩
abbrev lookO (n m : Nat) (ta oa za zb : Option Addr) (zc zd : Nat) (N : Int) (bv : Value) (x s1 s2 : Value) : Obj := .cells #[.int .i64 0, .int .i64 2, .int .i64 4, .int .i64 3, .int .i64 5, .int .i64 6, .int .i64 8, .int .i64 41, .int .i64 43, .slice ta n n, .slice oa m m, .int .i64 (43 + (m : Int) + (n : Int) * 24 + (m : Int) * 24), .slice za n zc, .slice zb m zd, .int .i64 N, bv, x, s1, s2] 51
theorem look14_enters (args : Array Value) (w : World) : (callFunc 12 args).run Tryz.prog w = .ok (.enter 12 args) w := enters_of Tryz.func12 (by kernel_rfl) rfl args w
theorem look14_cells {w : World} {U n m : Nat} {ta oa za zb : Option Addr} {zc zd : Nat} {N : Int} {bv x s1 s2 : Value} (h : w.heap[U]? = some (lookO n m ta oa za zb zc zd N bv x s1 s2)) :
    w.cell? ⟨U, 0, none⟩ = some (.int .i64 0) ∧ w.cell? ⟨U, 1, none⟩ = some (.int .i64 2) ∧ w.cell? ⟨U, 2, none⟩ = some (.int .i64 4) ∧ w.cell? ⟨U, 3, none⟩ = some (.int .i64 3) ∧ w.cell? ⟨U, 4, none⟩ = some (.int .i64 5) ∧ w.cell? ⟨U, 5, none⟩ = some (.int .i64 6) ∧ w.cell? ⟨U, 6, none⟩ = some (.int .i64 8) ∧ w.cell? ⟨U, 7, none⟩ = some (.int .i64 41) ∧ w.cell? ⟨U, 8, none⟩ = some (.int .i64 43) ∧ w.cell? ⟨U, 9, none⟩ = some (.slice ta n n) ∧ w.cell? ⟨U, 10, none⟩ = some (.slice oa m m) ∧ w.cell? ⟨U, 11, none⟩ = some (.int .i64 (43 + (m : Int) + (n : Int) * 24 + (m : Int) * 24)) ∧ w.cell? ⟨U, 12, none⟩ = some (.slice za n zc) ∧ w.cell? ⟨U, 13, none⟩ = some (.slice zb m zd) ∧ w.cell? ⟨U, 14, none⟩ = some (.int .i64 N) ∧ w.cell? ⟨U, 15, none⟩ = some (bv) ∧ w.cell? ⟨U, 16, none⟩ = some (x) ∧ w.cell? ⟨U, 17, none⟩ = some (s1) ∧ w.cell? ⟨U, 18, none⟩ = some (s2) :=
  ⟨cell_of_block h 0, cell_of_block h 1, cell_of_block h 2, cell_of_block h 3, cell_of_block h 4, cell_of_block h 5, cell_of_block h 6, cell_of_block h 7, cell_of_block h 8, cell_of_block h 9, cell_of_block h 10, cell_of_block h 11, cell_of_block h 12, cell_of_block h 13, cell_of_block h 14, cell_of_block h 15, cell_of_block h 16, cell_of_block h 17, cell_of_block h 18⟩
def lookK (U : Nat) (n m : Nat) (ta oa za zb : Option Addr) (zc zd : Nat) (N : Int) (bv : Value) : Kept (List Int) where
  V := fun k => k = U
  W := fun k => k = U
  Pre := fun w => ∃ x s1 s2, w.heap[U]? = some (lookO n m ta oa za zb zc zd N bv x s1 s2)
  Post := fun b l w => ∃ x s1 s2, w.heap[U]? = some (lookO n m ta oa za zb zc zd N bv x s1 s2) ∧ (∃ g, Own13 w x g l) ∧ ∀ k, x.ownBlock = some k → b ≤ k
  sub := fun _ h => h
  low := fun w k h hk => by
    obtain ⟨x, s1, s2, h⟩ := h
    obtain rfl : k = U := hk
    exact lt_of_block h
  keep := fun S w w' h ho hv => by
    obtain ⟨x, s1, s2, h⟩ := h
    exact ⟨x, s1, s2, (ho.block U (lt_of_block h) (hv U rfl)).trans h⟩
  held := fun S b l w w' h ho hv hb => by
    obtain ⟨x, s1, s2, h, ⟨g, hg⟩, hk⟩ := h
    exact ⟨x, s1, s2, (ho.block U (lt_of_block h) (hv U rfl)).trans h, ⟨g, Grow.keep14 hg ho (fun k hk' => hb k (hk k hk'))⟩, hk⟩
  less := fun b b' l w h hb => by
    obtain ⟨x, s1, s2, h, hg, hk⟩ := h
    exact ⟨x, s1, s2, h, hg, fun k hk' => Nat.le_trans hb (hk k hk')⟩

/-- The body stands ahead of T: its block holds v, c1, c2; s1 and s2 are the slices that grow. -/
structure LAt (w : World) (F lb p q U : Nat) (C : Bag) (n m : Nat) (ta oa za zb : Option Addr) (zc zd : Nat) (N : Int) (bv : Value) (v c1 c2 s1 s2 : Value) (l : List Int) (j1 j2 : Nat) {β : Type} {d : Nat} (T : Tree β d) (R : β × FrSt × List Int) (w1 : World) : Prop where
  at0 : At w F lb p q (fun k => k = U) ((((Bag.one U (lookO n m ta oa za zb zc zd N bv v c1 c2)).and C).and (oBag v l)).and ((gBag s1 j1).and (gBag s2 j2))) T R w1
  a0 : ∀ k, v.ownBlock = some k → w.heap.size ≤ k ∧ s1.ownBlock ≠ some k ∧ s2.ownBlock ≠ some k
  a1 : ∀ k, s1.ownBlock = some k → w.heap.size ≤ k ∧ s2.ownBlock ≠ some k
  a2 : ∀ k, s2.ownBlock = some k → w.heap.size ≤ k
  u : U < w.heap.size
  c : ∀ k, C.V k → k < w.heap.size ∧ k ≠ U
section
variable {w w1 w2 : World} {F lb p q U : Nat} {C : Bag} {n m : Nat} {ta oa za zb : Option Addr} {zc zd : Nat} {N : Int} {bv v c1 c2 s1 s2 : Value} {l : List Int} {j1 j2 : Nat} {β : Type} {d : Nat} {T : Tree β d} {R : β × FrSt × List Int}
theorem LAt.block (h : LAt w F lb p q U C n m ta oa za zb zc zd N bv v c1 c2 s1 s2 l j1 j2 T R w1) : w1.heap[U]? = some (lookO n m ta oa za zb zc zd N bv v c1 c2) := h.at0.bag.1.1.1
theorem LAt.still (h : LAt w F lb p q U C n m ta oa za zb zc zd N bv v c1 c2 s1 s2 l j1 j2 T R w1) (ho : Only (fun _ => False) w1 w2) : LAt w F lb p q U C n m ta oa za zb zc zd N bv v c1 c2 s1 s2 l j1 j2 T R w2 :=
  ⟨h.at0.turn (S2 := fun _ => False) ho (fun _ h => h.elim) (fun _ _ h => h.elim) (Bag.keep _ _ _ _ h.at0.bag ho (fun _ _ h => h)) (fun _ h => .inl h), h.a0, h.a1, h.a2, h.u, h.c⟩
theorem LAt.mono (h : LAt w F lb p q U C n m ta oa za zb zc zd N bv v c1 c2 s1 s2 l j1 j2 T R w1) {i1 i2 : Nat} (h1 : j1 ≤ i1) (h2 : j2 ≤ i2) : LAt w F lb p q U C n m ta oa za zb zc zd N bv v c1 c2 s1 s2 l i1 i2 T R w1 := by
  refine ⟨h.at0.turn (S2 := fun _ => False) (Only.refl _ _) (fun _ h => h.elim) (fun _ _ h => h.elim) ⟨h.at0.bag.1, ?_, ?_⟩ (fun _ h => .inl h), h.a0, h.a1, h.a2, h.u, h.c⟩
  · obtain ⟨b, n, xs, hg, hn⟩ := h.at0.bag.2.1
    exact ⟨b, n, xs, hg, Nat.le_trans hn h1⟩
  · obtain ⟨b, n, xs, hg, hn⟩ := h.at0.bag.2.2
    exact ⟨b, n, xs, hg, Nat.le_trans hn h2⟩
theorem LAt.low (h : LAt w F lb p q U C n m ta oa za zb zc zd N bv v c1 c2 s1 s2 l j1 j2 T R w1) : w.heap.size ≤ w1.heap.size ∧ (∀ k, v.ownBlock = some k → k < w1.heap.size) ∧ (∀ k, s1.ownBlock = some k → k < w1.heap.size) ∧ ∀ k, s2.ownBlock = some k → k < w1.heap.size :=
  ⟨h.at0.size, fun _ hk => (oBag v l).low _ _ h.at0.bag.1.2 hk, fun _ hk => (gBag s1 j1).low _ _ h.at0.bag.2.1 hk, fun _ hk => (gBag s2 j2).low _ _ h.at0.bag.2.2 hk⟩
/-- The first slice grows. -/
theorem LAt.push1 (h : LAt w F lb p q U C n m ta oa za zb zc zd N bv v c1 c2 s1 s2 l j1 j2 T R w1) {s' : Value} {b b' n' : Nat} {xs' : List Value} (hg : Grow 2 1 w2 s' b' n' xs') (hn : n' ≤ j1 + 1) (ho : Only (fun k => s1.ownBlock = some k) w1 w2) (hs : s'.ownBlock = some b') (hb : s1.ownBlock = some b ∨ (s1.ownBlock = none ∧ w1.heap.size ≤ b)) (hb' : b' = b ∨ w1.heap.size ≤ b') :
    LAt w F lb p q U C n m ta oa za zb zc zd N bv v c1 c2 s' s2 l (j1 + 1) j2 T R w2 := by
  obtain ⟨z0, z1, z2, z3⟩ := h.low
  have hcase : s1.ownBlock = some b' ∨ w1.heap.size ≤ b' := by
    rcases hb' with rfl | h9
    · rcases hb with h8 | h8
      · exact .inl h8
      · exact .inr h8.2
    · exact .inr h9
  have B0 := h.at0.bag
  refine ⟨h.at0.turn (S2 := fun k => s1.ownBlock = some k) ho (fun _ hk => .inr (.inl hk)) (fun k hk e => by have := (h.a1 k e).1; omega) ⟨⟨⟨?_, ?_⟩, ?_⟩, ⟨b', n', xs', hg, hn⟩, ?_⟩ (fun k hk => ?_), fun k hk => ⟨(h.a0 k hk).1, fun e => ?_, (h.a0 k hk).2.2⟩, fun k hk => ?_, h.a2, h.u, h.c⟩
  · exact Bag.keep _ _ _ _ B0.1.1.1 ho (fun k hk e => by have e' : k = U := hk; have := (h.a1 k e).1; have := h.u; omega)
  · exact Bag.keep _ _ _ _ B0.1.1.2 ho (fun k hk e => by have := (h.a1 k e).1; have := (h.c k hk).1; omega)
  · exact Bag.keep _ _ _ _ B0.1.2 ho (fun k hk e => (h.a0 k hk).2.1 e)
  · exact Bag.keep _ _ _ _ B0.2.2 ho (fun k hk e => (h.a1 k e).2 hk)
  · rcases hk with hk | hk | hk
    · exact .inl (.inl hk)
    · have e : b' = k := by
        have hk' : s'.ownBlock = some k := hk
        rw [hs] at hk'
        injection hk'
      subst e
      rcases hcase with h9 | h9
      · exact .inl (.inr (.inl h9))
      · exact .inr h9
    · exact .inl (.inr (.inr hk))
  · rw [hs] at e
    injection e with e
    subst e
    rcases hcase with h9 | h9
    · exact (h.a0 _ hk).2.1 h9
    · have := z1 _ hk
      omega
  · rw [hs] at hk
    injection hk with hk
    subst hk
    rcases hcase with h9 | h9
    · exact h.a1 _ h9
    · exact ⟨by omega, fun e => by have := z3 _ e; omega⟩
/-- The second slice grows. -/
theorem LAt.push2 (h : LAt w F lb p q U C n m ta oa za zb zc zd N bv v c1 c2 s1 s2 l j1 j2 T R w1) {s' : Value} {b b' n' : Nat} {xs' : List Value} (hg : Grow 2 1 w2 s' b' n' xs') (hn : n' ≤ j2 + 1) (ho : Only (fun k => s2.ownBlock = some k) w1 w2) (hs : s'.ownBlock = some b') (hb : s2.ownBlock = some b ∨ (s2.ownBlock = none ∧ w1.heap.size ≤ b)) (hb' : b' = b ∨ w1.heap.size ≤ b') :
    LAt w F lb p q U C n m ta oa za zb zc zd N bv v c1 c2 s1 s' l j1 (j2 + 1) T R w2 := by
  obtain ⟨z0, z1, z2, z3⟩ := h.low
  have hcase : s2.ownBlock = some b' ∨ w1.heap.size ≤ b' := by
    rcases hb' with rfl | h9
    · rcases hb with h8 | h8
      · exact .inl h8
      · exact .inr h8.2
    · exact .inr h9
  have B0 := h.at0.bag
  refine ⟨h.at0.turn (S2 := fun k => s2.ownBlock = some k) ho (fun _ hk => .inr (.inr hk)) (fun k hk e => by have := h.a2 k e; omega) ⟨⟨⟨?_, ?_⟩, ?_⟩, ?_, ⟨b', n', xs', hg, hn⟩⟩ (fun k hk => ?_), fun k hk => ⟨(h.a0 k hk).1, (h.a0 k hk).2.1, fun e => ?_⟩, fun k hk => ⟨(h.a1 k hk).1, fun e => ?_⟩, fun k hk => ?_, h.u, h.c⟩
  · exact Bag.keep _ _ _ _ B0.1.1.1 ho (fun k hk e => by have e' : k = U := hk; have := h.a2 k e; have := h.u; omega)
  · exact Bag.keep _ _ _ _ B0.1.1.2 ho (fun k hk e => by have := h.a2 k e; have := (h.c k hk).1; omega)
  · exact Bag.keep _ _ _ _ B0.1.2 ho (fun k hk e => (h.a0 k hk).2.2 e)
  · exact Bag.keep _ _ _ _ B0.2.1 ho (fun k hk e => (h.a1 k hk).2 e)
  · rcases hk with hk | hk | hk
    · exact .inl (.inl hk)
    · exact .inl (.inr (.inl hk))
    · have e : b' = k := by
        have hk' : s'.ownBlock = some k := hk
        rw [hs] at hk'
        injection hk'
      subst e
      rcases hcase with h9 | h9
      · exact .inl (.inr (.inr h9))
      · exact .inr h9
  · rw [hs] at e
    injection e with e
    subst e
    rcases hcase with h9 | h9
    · exact (h.a0 _ hk).2.2 h9
    · have := z1 _ hk
      omega
  · rw [hs] at e
    injection e with e
    subst e
    rcases hcase with h9 | h9
    · exact (h.a1 _ hk).2 h9
    · have := z2 _ hk
      omega
  · rw [hs] at hk
    injection hk with hk
    subst hk
    rcases hcase with h9 | h9
    · exact h.a2 _ h9
    · omega
/-- A store into the block. -/
theorem LAt.store (h : LAt w F lb p q U C n m ta oa za zb zc zd N bv v c1 c2 s1 s2 l j1 j2 T R w1) {i : Nat} {x v' c1' c2' : Value} (hv : v' = v) (hw : (w1.setCell ⟨U, i, none⟩ x).heap[U]? = some (lookO n m ta oa za zb zc zd N bv v' c1' c2')) : LAt w F lb p q U C n m ta oa za zb zc zd N bv v c1' c2' s1 s2 l j1 j2 T R (w1.setCell ⟨U, i, none⟩ x) := by
  subst hv
  have ho : Only (fun k => k = U) w1 (w1.setCell ⟨U, i, none⟩ x) := (Only.self U w1).own i x
  have B0 := h.at0.bag
  have z := h.u
  refine ⟨h.at0.turn (S2 := fun k => k = U) ho (fun _ hk => .inl (.inl (.inl hk))) (fun _ _ h => h) ⟨⟨⟨hw, ?_⟩, ?_⟩, ?_, ?_⟩ (fun _ h => .inl h), h.a0, h.a1, h.a2, h.u, h.c⟩
  · exact Bag.keep _ _ _ _ B0.1.1.2 ho (fun k hk e => (h.c k hk).2 e)
  · exact Bag.keep _ _ _ _ B0.1.2 ho (fun k hk e => by have := (h.a0 k hk).1; have e' : k = U := e; omega)
  · exact Bag.keep _ _ _ _ B0.2.1 ho (fun k hk e => by have := (h.a1 k hk).1; have e' : k = U := e; omega)
  · exact Bag.keep _ _ _ _ B0.2.2 ho (fun k hk e => by have := h.a2 k hk; have e' : k = U := e; omega)
end

set_option maxRecDepth 100000 in
set_option maxHeartbeats 4000000 in
theorem look14 (Q P : Nat → Prop) (U : Nat) (hQ : ¬ Q U) (hP : ¬ P U) (n m : Nat) (ta oa za zb : Option Addr) (zc zd : Nat) (N : Int) (ba : Option Addr) (bn bc : Nat) (but : List Int) (k6 : Nat) (hk6 : k6 = 6) (hd : 2 * n + (dB k6 + 3) ≤ 200000) :
    BodyIn (lookT n m N but k6 n) 12 (ptrV U) (besideK (lookK U n m ta oa za zb zc zd N (.slice ba bn bc)) ((thBag (planCs n m ta oa (.slice za n zc) (.slice zb m zd)) n m Q).and (slBag P (.slice ba bn bc) but))) 6000 := by
  refine body_of look14_enters hd (by decide) fun w hw => ?_
  obtain ⟨⟨x, s1, s2, hb⟩, hC⟩ := hw
  refine ⟨(Bag.one U (lookO n m ta oa za zb zc zd N (.slice ba bn bc) x s1 s2)).and ((thBag (planCs n m ta oa (.slice za n zc) (.slice zb m zd)) n m Q).and (slBag P (.slice ba bn bc) but)), ⟨hb, hC⟩, fun _ h => h, fun F lb p q R h0 => ?_⟩
  obtain ⟨CC, hCC⟩ : ∃ CC, ((thBag (planCs n m ta oa (.slice za n zc) (.slice zb m zd)) n m Q).and (slBag P (.slice ba bn bc) but)) = CC := ⟨_, rfl⟩
  have HBE : Hid (DoesOut CC 43 (fun F => #[F, .agg (planCs n m ta oa (.slice za n zc) (.slice zb m zd)), .int .i64 N, (.slice ba bn bc)]) (bestT n m N but k6)) := hCC ▸ best14 Q P (planCs n m ta oa (.slice za n zc) (.slice zb m zd)) n m N (.slice ba bn bc) but k6 hk6
  have HTL : Hid ((thBag (planCs n m ta oa (.slice za n zc) (.slice zb m zd)) n m Q).Le CC) := hCC ▸ ⟨fun _ h => h.1, fun _ h => .inl h⟩
  have HV : Hid (¬ CC.V U) := hCC ▸ fun h => h.elim hQ hP
  have HCV : Hid (∀ k, CC.V k → k < w.heap.size ∧ k ≠ U) := by
    intro k hk
    refine ⟨?_, fun e => HV.out (e ▸ hk)⟩
    rw [← hCC] at hk
    exact Bag.low _ _ _ hC hk
  have HU : Hid (U < w.heap.size) := lt_of_block hb
  have hn6 : n ≤ 6 := hC.1.1.1
  have H0 : Hid (At w F lb p q (fun k => k = U) ((Bag.one U (lookO n m ta oa za zb zc zd N (.slice ba bn bc) x s1 s2)).and CC) (lookT n m N but k6 n) R w) := hCC ▸ h0
  obtain ⟨KK, hKK⟩ : ∃ KK, besideK (lookK U n m ta oa za zb zc zd N (.slice ba bn bc)) ((thBag (planCs n m ta oa (.slice za n zc) (.slice zb m zd)) n m Q).and (slBag P (.slice ba bn bc) but)) = KK := ⟨_, rfl⟩
  have HW : KK.W = fun k => k = U := hKK ▸ rfl
  have HKV : Hid (∀ k, KK.V k → k = U ∨ CC.V k) := by rw [← hKK, ← hCC]; exact fun _ h => h
  have HPRE : Hid (∀ wx x s1 s2, wx.heap[U]? = some (lookO n m ta oa za zb zc zd N (.slice ba bn bc) x s1 s2) → CC.P wx → KK.Pre wx) := by rw [← hKK, ← hCC]; exact fun _ x s1 s2 h1 h2 => ⟨⟨x, s1, s2, h1⟩, h2⟩
  have HPOST : Hid (∀ wx bb l x s1 s2, wx.heap[U]? = some (lookO n m ta oa za zb zc zd N (.slice ba bn bc) x s1 s2) → (∃ g, Own13 wx x g l) → (∀ k, x.ownBlock = some k → bb ≤ k) → KK.Post bb l wx) := by rw [← hKK]; exact fun _ _ _ x s1 s2 h1 h2 h3 => ⟨x, s1, s2, h1, h2, h3⟩
  rw [hKK, HW]
  clear hKK HW
  have H1 := hid ((H0.out.setIn HV.out 17 (.slice none 0 0)).setIn HV.out 18 (.slice none 0 0))
  have f17 : w.frozen? ⟨U, 17, none⟩ = false := frozen_of_block hb 17
  have hb1 : (w.setCell ⟨U, 17, none⟩ (.slice none 0 0)).heap[U]? = some (lookO n m ta oa za zb zc zd N (.slice ba bn bc) x (.slice none 0 0) s2) := block_setCell hb 17 (.slice none 0 0)
  have f18 : (w.setCell ⟨U, 17, none⟩ (.slice none 0 0)).frozen? ⟨U, 18, none⟩ = false := frozen_of_block hb1 18
  have y17 : w.cell? ⟨U, 17, none⟩ = some s1 := cell_of_block hb 17
  have y18 : (w.setCell ⟨U, 17, none⟩ (.slice none 0 0)).cell? ⟨U, 18, none⟩ = some s2 := cell_of_block hb1 18
  clear h0 hb hC hb1 hCC
  go_enter Tryz.func12, Tryz.ntmps12
  go_upto_region 1 with fail
  obtain ⟨W, hW⟩ : ∃ W, (w.setCell ⟨U, 17, none⟩ (.slice none 0 0)).setCell ⟨U, 18, none⟩ (.slice none 0 0) = W := ⟨_, rfl⟩
  have HA : Hid (At w F lb p q (fun k => k = U) ((Bag.one U (lookO n m ta oa za zb zc zd N (.slice ba bn bc) x (.slice none 0 0) (.slice none 0 0))).and CC) (lookT n m N but k6 n) R W) := hW ▸ H1.out
  rw [hW]
  have HAd := hid HA.out.drew
  obtain ⟨c0, c1, c2, c3, c4, c5, c6, c7, c8, c9, c10, c11, c12, c13, c14, c15, c16, c17, c18⟩ := look14_cells HA.out.bag.1
  clear hW H1 f17 f18 y17 y18 H0 HA
  go_region_held (fun w' => w'.cell? ⟨U, 0, none⟩ = some (.int .i64 0) ∧ w'.cell? ⟨U, 1, none⟩ = some (.int .i64 2) ∧ w'.cell? ⟨U, 2, none⟩ = some (.int .i64 4) ∧ w'.cell? ⟨U, 3, none⟩ = some (.int .i64 3) ∧ w'.cell? ⟨U, 4, none⟩ = some (.int .i64 5) ∧ w'.cell? ⟨U, 5, none⟩ = some (.int .i64 6) ∧ w'.cell? ⟨U, 6, none⟩ = some (.int .i64 8) ∧ w'.cell? ⟨U, 7, none⟩ = some (.int .i64 41) ∧ w'.cell? ⟨U, 8, none⟩ = some (.int .i64 43) ∧ w'.cell? ⟨U, 9, none⟩ = some (.slice ta n n) ∧ w'.cell? ⟨U, 10, none⟩ = some (.slice oa m m) ∧ w'.cell? ⟨U, 11, none⟩ = some (.int .i64 (43 + (m : Int) + (n : Int) * 24 + (m : Int) * 24)) ∧ w'.cell? ⟨U, 12, none⟩ = some (.slice za n zc) ∧ w'.cell? ⟨U, 13, none⟩ = some (.slice zb m zd) ∧ w'.cell? ⟨U, 14, none⟩ = some (.int .i64 N) ∧ w'.cell? ⟨U, 15, none⟩ = some (.slice ba bn bc)) (go_keep)
    (first | (go_at_call 43; refine (HAd.out.callOut HBE.out ⟨fun _ h => h.2, fun _ h => .inr h⟩).mono ?_; rintro e w1 ⟨l, v, rfl, h1, hl⟩
              obtain ⟨g, hown⟩ := h1.bag.2
              obtain ⟨va, vc, rfl, _⟩ := Grow.shape hown
              have hb1 : w1.heap[U]? = some (lookO n m ta oa za zb zc zd N (.slice ba bn bc) x (.slice none 0 0) (.slice none 0 0)) := h1.bag.1.1
              have hb2 : (w1.setCell ⟨U, 16, none⟩ (.slice va l.length vc)).heap[U]? = some (lookO n m ta oa za zb zc zd N (.slice ba bn bc) (.slice va l.length vc) (.slice none 0 0) (.slice none 0 0)) := block_setCell hb1 16 (.slice va l.length vc)
              have hz : w.heap.size ≤ W.drew.heap.size := HAd.out.size
              have hus : Only (fun k => k = U) w1 (w1.setCell ⟨U, 16, none⟩ (.slice va l.length vc)) := (Only.self U w1).own 16 _
              have hlU : ∀ k, Value.ownBlock (.slice va l.length vc) = some k → w.heap.size ≤ k := fun k hk => Nat.le_trans hz (hl k hk)
              have HL : Hid (LAt w F lb p q U CC n m ta oa za zb zc zd N (.slice ba bn bc) (.slice va l.length vc) (.slice none 0 0) (.slice none 0 0) (.slice none 0 0) (.slice none 0 0) l 0 0 (getsT n m l n 0) R (w1.setCell ⟨U, 16, none⟩ (.slice va l.length vc))) := by
                refine ⟨h1.turn (S2 := fun k => k = U) hus (fun _ hk => .inl (.inl hk)) (fun _ _ h => h) ⟨⟨⟨hb2, CC.keep _ _ _ h1.bag.1.2 hus (fun k hk e => (HCV.out k hk).2 e)⟩, g, Grow.keep14 hown hus (fun k hk e => by have := hlU k hk; have := HU.out; have e' : k = U := e; omega)⟩, ⟨0, 0, [], Grow.nil _ _ _ _, Nat.le_refl _⟩, ⟨0, 0, [], Grow.nil _ _ _ _, Nat.le_refl _⟩⟩ (fun k hk => ?_), fun k hk => ⟨hlU k hk, fun e => (by cases e), fun e => (by cases e)⟩, fun k hk => (by cases hk), fun k hk => (by cases hk), HU.out, HCV.out⟩
                rcases hk with hk | hk | hk
                · exact .inl hk
                · cases hk
                · cases hk
              obtain ⟨d0, d1, d2, d3, d4, d5, d6, d7, d8, d9, d10, d11, d12, d13, d14, d15, d16, d17, d18⟩ := look14_cells hb1
              have f16 := frozen_of_block hb1 16
              obtain ⟨e0, e1, e2, e3, e4, e5, e6, e7, e8, e9, e10, e11, e12, e13, e14, e15, e16, e17, e18⟩ := look14_cells hb2
              clear h1 hb1 hb2 hown hz hus hlU hl HAd))
  clear HBE c0 c1 c2 c3 c4 c5 c6 c7 c8 c9 c10 c11 c12 c13 c14 c15 c16 c17 c18 d0 d1 d2 d3 d4 d5 d6 d7 d8 d9 d10 d11 d12 d13 d14 d15 d16 d17 d18 f16
  obtain ⟨v, hv⟩ : ∃ v, (Value.slice va l.length vc) = v := ⟨_, rfl⟩
  obtain ⟨W2, hW2⟩ : ∃ W2, w1.setCell ⟨U, 16, none⟩ (.slice va l.length vc) = W2 := ⟨_, rfl⟩
  rw [hW2] at HL
  rw [hv] at HL
  go_upto_region 2 with fail
  rw [hW2] at e0 e1 e2 e3 e4 e5 e6 e7 e8 e9 e10 e11 e12 e13 e14 e15 e16 e17 e18 ⊢
  clear hW2 hv
  go_wp2_with fail
  clear e0 e1 e2 e3 e4 e5 e6 e7 e8 e9 e10 e11 e12 e13 e14 e15 e16 e17 e18
  go_loopw [34] (fun i wx => ∃ (j : Nat) (s1 s2 : Value), i = .int .i64 (j : Int) ∧ j ≤ n ∧ LAt w F lb p q U CC n m ta oa za zb zc zd N (.slice ba bn bc) v s1 s2 s1 s2 l j j (getsT n m l (n - j) (j : Int)) R wx) (fun i _ => n - (intOf i).toNat)
  case atStart => exact ⟨0, (.slice none 0 0), (.slice none 0 0), rfl, Nat.zero_le _, HL.out⟩
  case round =>
    obtain ⟨j, s1, s2, rfl, hj, hL⟩ := hrel
    clear HL
    by_cases hlt : (j : Int) < (n : Int)
    · obtain ⟨k, hk⟩ : ∃ k, n - j = k + 1 := ⟨n - j - 1, by omega⟩
      rw [hk] at hL
      have HK : Hid (k = n - (j + 1)) := by show _ = _; omega
      have HL0 : Hid (LAt w F lb p q U CC n m ta oa za zb zc zd N (.slice ba bn bc) v s1 s2 s1 s2 l j j ((getT n m (j : Int) 0).bind fun _ => (getT n m (j : Int) 2).bind fun _ => getsT n m l k ((j : Int) + 1)) R wr) := hL
      have HLE : Hid ((thBag (planCs n m ta oa (.slice za n zc) (.slice zb m zd)) n m Q).Le ((((Bag.one U (lookO n m ta oa za zb zc zd N (.slice ba bn bc) v s1 s2)).and CC).and (oBag v l)).and ((gBag s1 j).and (gBag s2 j)))) := ⟨fun w h => HTL.out.p w h.1.1.2, fun k h => .inl (.inl (.inr (HTL.out.v k h)))⟩
      clear hL hk
      go_upto_region 5 with fail
      go_cut [] (fun wc => ∃ s1b, LAt w F lb p q U CC n m ta oa za zb zc zd N (.slice ba bn bc) v s1b s2 s1b s2 l (j + 1) j ((getT n m (j : Int) 2).bind fun _ => getsT n m l k ((j : Int) + 1)) R wc)
      case first =>
        have HL0d := hid (HL0.out.still ((Only.refl _ _).drew))
        obtain ⟨c0, c1, c2, c3, c4, c5, c6, c7, c8, c9, c10, c11, c12, c13, c14, c15, c16, c17, c18⟩ := look14_cells HL0.out.block
        obtain ⟨o1, n10, x10, rfl⟩ : ∃ o n x, s1 = Value.slice o n x := by
          obtain ⟨b, n, xs, hg, _⟩ := HL0.out.at0.bag.2.1
          obtain ⟨ao, cap, e, _⟩ := Grow.shape hg
          exact ⟨ao, n, cap, e⟩
        go_region_law (first
          | (have hz9 := HL0d
             clear hz9
             go_simp
             go_wp2_with
              (go_at_call 44; refine (HL0d.out.at0.callIn (tGet_does Q _ n m (j : Int) 0) HLE.out).mono ?_; rintro e w2 ⟨x2, rfl, h2⟩
               have HL2 := hid (LAt.mk h2 HL0d.out.a0 HL0d.out.a1 HL0d.out.a2 HL0d.out.u HL0d.out.c)
               have HL3 := hid (HL2.out.still ((Only.refl (fun _ => False) _).alloc (.cells #[.int .i64 x2] 2)))
               obtain ⟨d0, d1, d2, d3, d4, d5, d6, d7, d8, d9, d10, d11, d12, d13, d14, d15, d16, d17, d18⟩ := look14_cells HL2.out.block
               obtain ⟨g0, g1, g2, g3, g4, g5, g6, g7, g8, g9, g10, g11, g12, g13, g14, g15, g16, g17, g18⟩ := look14_cells HL3.out.block
               obtain ⟨b1, n1, xs1, hg1, hn1⟩ := HL3.out.at0.bag.2.1
               obtain ⟨b2, hg2, hbb⟩ := Grow.spot14 hg1
               have HG2 := hid hg2
               have HBB := hid hbb
               clear h2 hg1 hg2 hbb HL0d))
          | (refine step_append_grown _ rfl (.tmp 41) (.tmp 49) 49 rfl 2 _ 1 8 Tryz.underlying49 Tryz.info2 rfl (by decide) (.slice o1 n10 x10) b2 n1 xs1 rfl HG2.out ⟨w2.heap.size, 0, none⟩ 1 1 [.int .i64 x2] rfl (by decide) rfl (news_of_block (heap_new w2 (.cells #[.int .i64 x2] 2))) (one_int13 _) (by unfold maxLen; omega) (by omega) ?_
             intro b' cap' w3 h1 h2 h30
             have h3 : b' = b2 ∨ (w2.alloc (.cells #[.int .i64 x2] 2)).heap.size ≤ b' := by first | exact h30 | (rw [World.size_alloc]; exact h30)
             have HL4 := hid (HL3.out.push1 h1 (by omega) h2 rfl HBB.out h3)
             have hb4 := HL4.out.block
             obtain ⟨i0, i1, i2, i3, i4, i5, i6, i7, i8, i9, i10, i11, i12, i13, i14, i15, i16, i17, i18⟩ := look14_cells hb4
             have f17 : w3.frozen? ⟨U, 17, none⟩ = false := frozen_of_block hb4 17
             have HL5 : Hid (LAt w F lb p q U CC n m ta oa za zb zc zd N (.slice ba bn bc) v (.slice (some ⟨b', 0, none⟩) (n1 + 1 : Nat) cap') s2 (.slice (some ⟨b', 0, none⟩) (n1 + 1 : Nat) cap') s2 l _ _ _ R (w3.setCell ⟨U, 17, none⟩ (.slice (some ⟨b', 0, none⟩) (n1 + 1 : Nat) cap'))) := HL4.out.store rfl (block_setCell hb4 17 (.slice (some ⟨b', 0, none⟩) (n1 + 1 : Nat) cap'))
             clear h1 h2 h3 h30 hb4 HG2 HBB HL3))
        all_goals go_wp2_with fail
        all_goals go_meet
        all_goals exact ⟨_, HL5.out⟩
      case rest =>
        obtain ⟨s1b, hL6⟩ := hcut
        have HL6 := hid hL6
        have HLE : Hid ((thBag (planCs n m ta oa (.slice za n zc) (.slice zb m zd)) n m Q).Le ((((Bag.one U (lookO n m ta oa za zb zc zd N (.slice ba bn bc) v s1b s2)).and CC).and (oBag v l)).and ((gBag s1b (j + 1)).and (gBag s2 j)))) := ⟨fun w h => HTL.out.p w h.1.1.2, fun k h => .inl (.inl (.inr (HTL.out.v k h)))⟩
        clear hL6 HL0
        go_upto_region 6 with fail
        have HL6d := hid (HL6.out.still ((Only.refl _ _).drew))
        obtain ⟨c0, c1, c2, c3, c4, c5, c6, c7, c8, c9, c10, c11, c12, c13, c14, c15, c16, c17, c18⟩ := look14_cells HL6.out.block
        obtain ⟨o1, n10, x10, rfl⟩ : ∃ o n x, s2 = Value.slice o n x := by
          obtain ⟨b, n, xs, hg, _⟩ := HL6.out.at0.bag.2.2
          obtain ⟨ao, cap, e, _⟩ := Grow.shape hg
          exact ⟨ao, n, cap, e⟩
        go_region_law (first
          | (have hz9 := HL6d
             clear hz9
             go_simp
             go_wp2_with
              (go_at_call 44; refine (HL6d.out.at0.callIn (tGet_does Q _ n m (j : Int) 2) HLE.out).mono ?_; rintro e w2 ⟨x2, rfl, h2⟩
               have HL2 := hid (LAt.mk h2 HL6d.out.a0 HL6d.out.a1 HL6d.out.a2 HL6d.out.u HL6d.out.c)
               have HL3 := hid (HL2.out.still ((Only.refl (fun _ => False) _).alloc (.cells #[.int .i64 x2] 2)))
               obtain ⟨d0, d1, d2, d3, d4, d5, d6, d7, d8, d9, d10, d11, d12, d13, d14, d15, d16, d17, d18⟩ := look14_cells HL2.out.block
               obtain ⟨g0, g1, g2, g3, g4, g5, g6, g7, g8, g9, g10, g11, g12, g13, g14, g15, g16, g17, g18⟩ := look14_cells HL3.out.block
               obtain ⟨b1, n1, xs1, hg1, hn1⟩ := HL3.out.at0.bag.2.2
               obtain ⟨b2, hg2, hbb⟩ := Grow.spot14 hg1
               have HG2 := hid hg2
               have HBB := hid hbb
               clear h2 hg1 hg2 hbb HL6d))
          | (refine step_append_grown _ rfl (.tmp 57) (.tmp 65) 49 rfl 2 _ 1 8 Tryz.underlying49 Tryz.info2 rfl (by decide) (.slice o1 n10 x10) b2 n1 xs1 rfl HG2.out ⟨w2.heap.size, 0, none⟩ 1 1 [.int .i64 x2] rfl (by decide) rfl (news_of_block (heap_new w2 (.cells #[.int .i64 x2] 2))) (one_int13 _) (by unfold maxLen; omega) (by omega) ?_
             intro b' cap' w3 h1 h2 h30
             have h3 : b' = b2 ∨ (w2.alloc (.cells #[.int .i64 x2] 2)).heap.size ≤ b' := by first | exact h30 | (rw [World.size_alloc]; exact h30)
             have HL4 := hid (HL3.out.push2 h1 (by omega) h2 rfl HBB.out h3)
             have hb4 := HL4.out.block
             obtain ⟨i0, i1, i2, i3, i4, i5, i6, i7, i8, i9, i10, i11, i12, i13, i14, i15, i16, i17, i18⟩ := look14_cells hb4
             have f18 : w3.frozen? ⟨U, 18, none⟩ = false := frozen_of_block hb4 18
             have HL5 : Hid (LAt w F lb p q U CC n m ta oa za zb zc zd N (.slice ba bn bc) v s1b (.slice (some ⟨b', 0, none⟩) (n1 + 1 : Nat) cap') s1b (.slice (some ⟨b', 0, none⟩) (n1 + 1 : Nat) cap') l _ _ _ R (w3.setCell ⟨U, 18, none⟩ (.slice (some ⟨b', 0, none⟩) (n1 + 1 : Nat) cap'))) := HL4.out.store rfl (block_setCell hb4 18 (.slice (some ⟨b', 0, none⟩) (n1 + 1 : Nat) cap'))
             clear h1 h2 h3 h30 hb4 HG2 HBB HL3))
        all_goals go_wp2_with fail
        all_goals go_roundw
        all_goals first
          | (have h9 := HL5.out
             have e9 : (((j + 1 : Nat)) : Int) = (j : Int) + 1 := by omega
             rw [HK.out, ← e9] at h9
             exact ⟨j + 1, s1b, _, by go_num, by omega, h9⟩)
          | (simp [intOf]; omega)
    · have hjn : n - j = 0 := by omega
      have HL1 : Hid (LAt w F lb p q U CC n m ta oa za zb zc zd N (.slice ba bn bc) v s1 s2 s1 s2 l j j (Tree.ret l : Tree (List Int) 0) R wr) := by
        have h9 := hL
        rw [hjn] at h9
        exact h9
      clear hL hjn
      go_wp2_with fail
      go_end0
      refine ⟨rfl, l, _, HL1.out.at0, fun k hk => ?_, fun h => ⟨HPRE.out _ v s1 s2 h.1.1.1 h.1.1.2, HPOST.out _ _ l v s1 s2 h.1.1.1 h.1.2 (fun k hk => (HL1.out.a0 k hk).1)⟩⟩
      exact .inl (.inl (HKV.out k hk))
end Go.Proofs.YtdmgkmkhonmgbaaGreat
