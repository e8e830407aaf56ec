/-
  Code that stands ahead of a tree of accesses (At), and functions whose call does one (Does). Conditions: the frame and its memory are there, and share no block, nor one with what lies beside them; so many accesses fit.
-/
import Derived.Test.YtmcmjcaigipoaaaGreatSide
import Derived.Deep.LoopGhost
namespace Go.Sept
open Go.RowKit

/-- What lies beside a frame: V the blocks that it speaks of. -/
structure Bag where
  V : Nat → Prop
  P : World → Prop
  low : ∀ w k, P w → V k → k < w.heap.size
  keep : ∀ (S : Nat → Prop) (w w' : World), P w → Only S w w' → (∀ k, V k → ¬ S k) → P w'
/-- Nothing. -/
def Bag.none : Bag := ⟨fun _ => False, fun _ => True, fun _ _ _ h => h.elim, fun _ _ _ _ _ _ => trivial⟩
/-- One block. -/
def Bag.one (U : Nat) (o : Obj) : Bag := ⟨fun k => k = U, fun w => w.heap[U]? = some o, fun _ _ h e => e ▸ lt_of_block h, fun _ _ _ h ho hV => (ho.block U (lt_of_block h) (hV U rfl)).trans h⟩

/-- Trees of one access. -/
def loadT (a : Int) : Tree Int 1 := .acc 0 a 0 0 fun v => .ret v
def storeT (a v : Int) : Tree Unit 1 := .acc 1 a v 0 fun _ => .ret ()
def addT (a d : Int) : Tree Int 1 := .acc 2 a d 0 fun v => .ret v
def swapT (a u v : Int) : Tree Bool 1 := .acc 3 a v u fun x => .ret (x != 0)
def offT : Tree Bool 1 := .off fun o => .ret o
/-- One tree a number, from n - 1 down to 0. -/
def eachT {d : Nat} (t : Nat → Tree Unit d) : (n : Nat) → Tree Unit (d * n)
  | 0 => Tree.ret ()
  | n + 1 => Tree.bind (t n) fun _ => eachT t n
end Go.Sept

namespace Go.Proofs.YtmcmjcaigipoaaaGreat
open Go.RowKit Go.Sept

abbrev ptrV (F : Nat) : Value := .pointer (some ⟨F, 0, none⟩)

/-- The code stands, in the world w1, ahead of the tree T, which leaves R; w was the world at its beginning; what has turned since are the frame's, the memory's, and blocks of S. -/
def At (w : World) (F lb p q : Nat) (S : Nat → Prop) (B : Bag) {α : Type} {n : Nat} (T : Tree α n) (R : α × FrSt × List Int) (w1 : World) : Prop :=
  ∃ s xs lb1, FMIs w1 F lb1 p q s xs ∧ (lb1 = lb ∨ w.heap.size ≤ lb1) ∧ Only (fun k => k = F ∨ k = lb ∨ k = q ∨ S k) w w1 ∧ (B.P w1 ∧ ∀ k, B.V k → k ≠ F ∧ k ≠ lb1 ∧ k ≠ p ∧ k ≠ q) ∧ Fit n s ∧ T.run s xs = R

/-- The function fn, called with a frame, does the tree T, and answers by it. -/
def Does {α : Type} {n : Nat} (fn : Nat) (args : Value → Array Value) (T : Tree α n) (out : α → Value) : Prop :=
  ∀ (w : World) (F lb p q : Nat) (s : FrSt) (xs : List Int), FMIs w F lb p q s xs → Fit n s →
    Calls Tryz.prog fn (args (ptrV F)) w fun e w' => e = .returned (out (T.run s xs).1) ∧ Left w F lb p q (T.run s xs).2.1 (T.run s xs).2.2 w'

section
variable {w w1 w2 : World} {F lb p q : Nat} {S : Nat → Prop} {B : Bag} {α β : Type} {n m : Nat} {R : β × FrSt × List Int}

theorem At.start {T : Tree α n} {s : FrSt} {xs : List Int} (h : FMIs w F lb p q s xs) (hf : Fit n s) (hP : B.P w) (hV : ∀ k, B.V k → k ≠ F ∧ k ≠ lb ∧ k ≠ p ∧ k ≠ q) : At w F lb p q S B T (T.run s xs) w :=
  ⟨s, xs, lb, h, .inl rfl, Only.refl _ _, ⟨hP, hV⟩, hf, rfl⟩

theorem At.over {T2 : Tree β m} {lb1 : Nat} {s2 : FrSt} {xs2 : List Int} (h1 : lb1 = lb ∨ w.heap.size ≤ lb1) (h2 : Only (fun k => k = F ∨ k = lb ∨ k = q ∨ S k) w w1) (h3 : B.P w1 ∧ ∀ k, B.V k → k ≠ F ∧ k ≠ lb1 ∧ k ≠ p ∧ k ≠ q) (k : Left w1 F lb1 p q s2 xs2 w2) (hf : Fit m s2) (hr : T2.run s2 xs2 = R) : At w F lb p q S B T2 R w2 := by
  obtain ⟨lb2, k1, k2, k3⟩ := k
  have z := h2.size
  refine ⟨s2, xs2, lb2, k1, by omega, h2.chain k3 (fun i hi e => by omega), ⟨B.keep _ _ _ h3.1 k3 (fun i hi e => ?_), fun i hi => ?_⟩, hf, hr⟩
  · have := h3.2 i hi
    omega
  · have a1 := h3.2 i hi
    have a2 := B.low _ _ h3.1 hi
    exact ⟨a1.1, by omega, a1.2.2⟩

/-- A call that does the first part of what is ahead. -/
theorem At.call {t : Tree α n} {g : α → Tree β m} {fn : Nat} {args : Value → Array Value} {out : α → Value} (h : At w F lb p q S B (Tree.bind t g) R w1) (hc : Does fn args t out) :
    Calls Tryz.prog fn (args (ptrV F)) w1 fun e w2 => ∃ x, e = .returned (out x) ∧ At w F lb p q S B (g x) R w2 := by
  obtain ⟨s, xs, lb1, h1, h2, h3, h4, h5, h6⟩ := h
  refine (hc w1 F lb1 p q s xs h1 (h5.mono (Nat.le_add_left _ _))).mono ?_
  rintro e w2 ⟨rfl, hL⟩
  exact ⟨_, rfl, At.over h2 h3 h4 hL (t.fit (by rwa [Nat.add_comm]) xs) (by rw [← h6, Tree.run_bind])⟩

/-- A call that does all that is ahead. -/
theorem At.tail {t : Tree β n} {fn : Nat} {args : Value → Array Value} {out : β → Value} (h : At w F lb p q S B t R w1) (hc : Does fn args t out) :
    Calls Tryz.prog fn (args (ptrV F)) w1 fun e w2 => ∃ x, e = .returned (out x) ∧ At w F lb p q S B (Tree.ret x : Tree β 0) R w2 := by
  obtain ⟨s, xs, lb1, h1, h2, h3, h4, h5, h6⟩ := h
  refine (hc w1 F lb1 p q s xs h1 h5).mono ?_
  rintro e w2 ⟨rfl, hL⟩
  exact ⟨_, rfl, At.over h2 h3 h4 hL (t.fit (k := 0) h5 xs) (by rw [← h6, Tree.run_ret])⟩

theorem At.fin {x : β} (h : At w F lb p q S B (Tree.ret x : Tree β n) R w1) : At w F lb p q S B (Tree.ret x : Tree β 0) R w1 := by
  obtain ⟨s, xs, lb1, h1, h2, h3, h4, h5, h6⟩ := h
  exact ⟨s, xs, lb1, h1, h2, h3, h4, h5.mono (Nat.zero_le _), by rw [← h6, Tree.run_ret, Tree.run_ret]⟩
theorem At.pos {c : Prop} [Decidable c] {t1 t2 : Tree β n} (h : At w F lb p q S B (if c then t1 else t2) R w1) (hc : c) : At w F lb p q S B t1 R w1 := by rwa [if_pos hc] at h
theorem At.neg {c : Prop} [Decidable c] {t1 t2 : Tree β n} (h : At w F lb p q S B (if c then t1 else t2) R w1) (hc : ¬ c) : At w F lb p q S B t2 R w1 := by rwa [if_neg hc] at h
theorem At.eq {t1 t2 : Tree β n} (h : At w F lb p q S B t1 R w1) (e : t1 = t2) : At w F lb p q S B t2 R w1 := e ▸ h

/-- What lies beside the frame turns. -/
theorem At.turn {T : Tree β n} {S2 : Nat → Prop} {B' : Bag} (h : At w F lb p q S B T R w1) (ho : Only S2 w1 w2) (h1 : ∀ k, S2 k → B.V k) (h2 : ∀ k, k < w.heap.size → S2 k → S k) (hP : B'.P w2) (hV : ∀ k, B'.V k → B.V k ∨ w1.heap.size ≤ k) : At w F lb p q S B' T R w2 := by
  obtain ⟨s, xs, lb1, a1, a2, a3, a4, a5, a6⟩ := h
  have b1 := a1.frame.lt
  have b2 := a1.ll
  have b3 := a1.lp
  have b4 := a1.lq
  refine ⟨s, xs, lb1, a1.only ho (fun e => (a4.2 _ (h1 _ e)).1 rfl) (fun e => (a4.2 _ (h1 _ e)).2.1 rfl) (fun e => (a4.2 _ (h1 _ e)).2.2.1 rfl) (fun e => (a4.2 _ (h1 _ e)).2.2.2 rfl), a2, a3.chain ho (fun i hi e => .inr (.inr (.inr (h2 i hi e)))), ⟨hP, fun k hk => ?_⟩, a5, a6⟩
  rcases hV k hk with h9 | h9
  · exact a4.2 k h9
  · exact ⟨by omega, by omega, by omega, by omega⟩
theorem At.drew {T : Tree β n} (h : At w F lb p q S B T R w1) : At w F lb p q S B T R w1.drew := by
  have hP : B.P w1.drew := by
    obtain ⟨s, xs, lb1, a1, a2, a3, a4, a5, a6⟩ := h
    exact B.keep _ _ _ a4.1 ((Only.refl (fun _ => False) w1).drew) (fun _ _ h => h)
  exact h.turn (S2 := fun _ => False) ((Only.refl _ w1).drew) (fun _ h => h.elim) (fun _ _ h => h.elim) hP (fun _ h => .inl h)
theorem At.bag {T : Tree β n} (h : At w F lb p q S B T R w1) : B.P w1 := by
  obtain ⟨s, xs, lb1, a1, a2, a3, a4, a5, a6⟩ := h
  exact a4.1
theorem At.size {T : Tree β n} (h : At w F lb p q S B T R w1) : w.heap.size ≤ w1.heap.size := by
  obtain ⟨s, xs, lb1, a1, a2, a3, a4, a5, a6⟩ := h
  exact a3.size

/-- To show that a function does a tree. -/
theorem Does.of {T : Tree β n} {fn : Nat} {args : Value → Array Value} {out : β → Value}
    (h : ∀ (w : World) (F lb p q : Nat) (R : β × FrSt × List Int), At w F lb p q (fun _ => False) Bag.none T R w → Calls Tryz.prog fn (args (ptrV F)) w fun e w' => ∃ x, e = .returned (out x) ∧ At w F lb p q (fun _ => False) Bag.none (Tree.ret x : Tree β 0) R w') : Does fn args T out := by
  intro w F lb p q s xs hm hf
  refine (h w F lb p q _ (At.start hm hf trivial (fun _ h => h.elim))).mono ?_
  rintro e w' ⟨x, rfl, s', xs', lb1, a1, a2, a3, a4, a5, a6⟩
  rw [← a6, Tree.run_ret]
  exact ⟨rfl, lb1, a1, a2, a3.mono (fun k _ e => by
    rcases e with e | e | e | e
    · exact .inl e
    · exact .inr (.inl e)
    · exact .inr (.inr e)
    · exact e.elim)⟩

/-- A function that does nothing. -/
theorem Does.idle {fn : Nat} {args : Value → Array Value} {out : β → Value} {x : β} (h : ∀ (w : World) (F : Nat), Calls Tryz.prog fn (args (ptrV F)) w fun e w' => e = .returned (out x) ∧ w' = w) : Does fn args (Tree.ret x : Tree β n) out := by
  refine Does.of fun w F lb p q R h0 => (h w F).mono ?_
  rintro e w' ⟨rfl, rfl⟩
  exact ⟨x, rfl, h0.fin⟩
theorem Does.eq {T T' : Tree β n} {fn : Nat} {args : Value → Array Value} {out : β → Value} (h : Does fn args T out) (e : T = T') : Does fn args T' out := e ▸ h
end

theorem load_does (a : Int) : Does 89 (fun f => #[f, .int .i64 a]) (loadT a) (.int .i64) :=
  fun w F lb p q s xs h hf => fload_rel w F lb p q s xs h (fit_ready hf) a 0 0
theorem store_does (a v : Int) : Does 61 (fun f => #[f, .int .i64 a, .int .i64 v]) (storeT a v) (fun _ => .tuple #[]) :=
  fun w F lb p q s xs h hf => fstore_rel w F lb p q s xs h (fit_ready hf) a v 0
theorem off_does : Does 132 (fun f => #[f]) offT .bool := fun w F lb p q s xs h _ => by
  refine (foff_left h).mono ?_
  rintro e w' ⟨rfl, rfl⟩
  exact ⟨rfl, lb, h, .inl rfl, Only.refl _ _⟩
end Go.Proofs.YtmcmjcaigipoaaaGreat
