/-
  To show that a method is a body that does a tree (body_of); a block that a body reads (readK), or turns (cellK); frame.Run of such. Conditions: all of it lies in blocks that are not the same.
-/
import Derived.Test.YtapmakdklpbjkaaDoes
import Derived.Deep.RegionHeld
namespace Go.Sept
open Go.RowKit
namespace Tree
theorem alone_le {α : Type} {n : Nat} (t : Tree α n) (xs : List Int) : (t.alone xs).2.2 ≤ n := by
  induction n generalizing xs with
  | zero => exact Nat.le_refl _
  | succ n ih =>
    rcases kinds t with ⟨x, rfl⟩ | ⟨k, a, v, u, f, rfl⟩ | ⟨f, rfl⟩ | ⟨t', rfl⟩
    · exact Nat.zero_le _
    · rw [alone_acc]
      exact Nat.succ_le_succ (ih _ _)
    · exact Nat.le_succ_of_le (ih (f false) xs)
    · exact Nat.le_succ_of_le (ih t' xs)
theorem alone_length {α : Type} {n : Nat} (t : Tree α n) (xs : List Int) : (t.alone xs).2.1.length = xs.length := by
  induction n generalizing xs with
  | zero => rfl
  | succ n ih =>
    rcases kinds t with ⟨x, rfl⟩ | ⟨k, a, v, u, f, rfl⟩ | ⟨f, rfl⟩ | ⟨t', rfl⟩
    · rfl
    · rw [alone_acc]
      exact (ih _ _).trans (length_aftA _ _ _ _ _)
    · exact ih (f false) xs
    · exact ih t' xs
end Tree
end Go.Sept

namespace Go.Proofs.Ytapmakdklpbjkaa
open Go.RowKit Go.Sept

/-- To show that a method is a body that does a tree. -/
theorem body_of {α : Type} {n m : Nat} {T : Tree α n} {fn : Nat} {rcv : Value} {K : Kept α} (hent : ∀ (args : Array Value) (w : World), (callFunc fn args).run Try.prog w = .ok (.enter fn args) w) (hn : n ≤ 200000) (hm : m ≤ 100000)
    (h : ∀ w, K.Pre w → ∃ B : Bag, B.P w ∧ (∀ k, B.V k → K.V k) ∧ ∀ (F lb p q : Nat) (R : α × FrSt × List Int), At w F lb p q K.W B T R w →
      Calls Try.prog fn #[rcv, ptrV F] w fun e w' => ∃ (x : α) (B' : Bag), e = .returned (.tuple #[]) ∧ At w F lb p q K.W B' (Tree.ret x : Tree α 0) R w' ∧ (∀ k, K.V k → B'.V k) ∧ (B'.P w' → K.Pre w' ∧ K.Post w.heap.size x w')) : BodyIn T fn rcv K m where
  enters := hent
  small := hm
  does := fun w F lb p q s xs hN hf _ _ => by
    obtain ⟨B, hP, hV, hc⟩ := h w hN.pre
    refine (hc F lb p q _ (At.start hN.fm (hf.mono hn) hP (fun k hk => hN.apart k (hV k hk)))).mono ?_
    rintro e w' ⟨x, B', rfl, ⟨s', xs', lb1, a1, a2, a3, a4, a5, a6⟩, hV', hK⟩
    have hk := hK a4.1
    rw [← a6, Tree.run_ret]
    exact ⟨rfl, lb1, ⟨a1, hk.1, fun k hk => a4.2 k (hV' k hk)⟩, a2, a3, hk.2⟩

/-- One block that a body reads. -/
def readK (U : Nat) (o : Obj) : Kept Unit where
  V := fun k => k = U
  W := fun _ => False
  Pre := fun w => w.heap[U]? = some o
  Post := fun _ _ _ => True
  sub := fun _ h => h.elim
  low := fun w k h hk => by
    obtain rfl : k = U := hk
    exact lt_of_block h
  keep := fun S w w' h ho hv => (ho.block U (lt_of_block h) (hv U rfl)).trans h
  held := fun _ _ _ _ _ _ _ _ _ => trivial
  less := fun _ _ _ _ _ _ => trivial

/-- One block that a body turns by its answer. -/
def cellK {α : Type} (U : Nat) (o : α → Obj) : Kept α where
  V := fun k => k = U
  W := fun k => k = U
  Pre := fun w => ∃ x, w.heap[U]? = some (o x)
  Post := fun _ x w => w.heap[U]? = some (o x)
  sub := fun _ h => h
  low := fun w k h hk => by
    obtain ⟨x, h⟩ := h
    obtain rfl : k = U := hk
    exact lt_of_block h
  keep := fun S w w' h ho hv => by
    obtain ⟨x, h⟩ := h
    exact ⟨x, (ho.block U (lt_of_block h) (hv U rfl)).trans h⟩
  held := fun S b r w w' h ho hv _ => (ho.block U (lt_of_block h) (hv U rfl)).trans h
  less := fun _ _ _ _ h _ => h

/-- A store into the one block beside the frame. -/
theorem At.set {w w1 : World} {F lb p q : Nat} {β : Type} {n : Nat} {R : β × FrSt × List Int} {T : Tree β n} {U : Nat} {c : Array Value} {t : TypeId} (h : At w F lb p q (fun k => k = U) (Bag.one U (.cells c t)) T R w1) (i : Nat) (v : Value) : At w F lb p q (fun k => k = U) (Bag.one U (.cells (c.setIfInBounds i v) t)) T R (w1.setCell ⟨U, i, none⟩ v) :=
  h.turn (S2 := fun k => k = U) ((Only.self U w1).own i v) (fun _ h => h) (fun _ _ h => h) (block_setCell h.bag i v) (fun _ h => .inl h)

/-- A method whose body reads its own block. -/
theorem read_of {n : Nat} {T : Tree Unit n} (U : Nat) (o : Obj) (fn : Nat) (hent : ∀ (args : Array Value) (w : World), (callFunc fn args).run Try.prog w = .ok (.enter fn args) w) (hn : n ≤ 200000)
    (h : ∀ (w : World) (F lb p q : Nat) (R : Unit × FrSt × List Int), At w F lb p q (fun _ => False) (Bag.one U o) T R w →
      Calls Try.prog fn #[ptrV U, ptrV F] w fun e w' => e = .returned (.tuple #[]) ∧ At w F lb p q (fun _ => False) (Bag.one U o) (Tree.ret () : Tree Unit 0) R w') : BodyIn T fn (ptrV U) (readK U o) 6000 := by
  refine body_of hent hn (by decide) fun w hw => ⟨Bag.one U o, hw, fun _ h => h, fun F lb p q R h0 => (h w F lb p q R h0).mono ?_⟩
  rintro e w' ⟨rfl, h1⟩
  exact ⟨(), _, rfl, h1, fun _ h => h, fun h => ⟨h, trivial⟩⟩

/-- A body that only reads its own block, by frame.Run. -/
theorem run_reads {n m : Nat} {T : Tree Unit n} {fn U : Nat} {o : Obj} (hB : BodyIn T fn (ptrV U) (readK U o) m) (w : World) (p q : Nat) (xs : List Int) (most : Int) (hm : MemIs 77 w p q xs) (hU : w.heap[U]? = some o) (n1 : U ≠ p) (n2 : U ≠ q) (hk : (n : Int) ≤ most) (hpos : 0 < most) (hmm : most ≤ 9223372036854775807) (hk2 : n + 4 ≤ m) (hy : 0 < xs.length) :
    Calls Try.prog 44 #[.pointer (some ⟨p, 0, none⟩), bodyV fn (ptrV U), .int .i64 most] w fun e w' => e = .returned (.bool true) ∧ MemIs 77 w' p q (T.alone xs).2.1 ∧ Only (fun k => k = q) w w' := by
  have hle := T.alone_le xs
  refine (hB.run_all w p q xs most (.inl ⟨rfl, hm⟩) (lt_of_block hm.head) hm.row.lt hU ?_ (by omega) hpos hmm (by omega)).mono ?_
  · rintro k rfl
    exact ⟨n1, n2⟩
  · rintro e w' ⟨rfl, h1, h2, h3, h4⟩
    exact ⟨rfl, holds_mem h1 (by rw [T.alone_length]; exact hy), h4.mono (fun k _ e => e.elim (fun h => h) (fun h => h.elim))⟩

/-- A body that turns its own block, by frame.Run. -/
theorem run_turns {α : Type} {n m : Nat} {T : Tree α n} {fn U : Nat} {o : α → Obj} (hB : BodyIn T fn (ptrV U) (cellK U o) m) (w : World) (p q : Nat) (xs : List Int) (most : Int) (x : α) (hm : MemIs 77 w p q xs) (hU : w.heap[U]? = some (o x)) (n1 : U ≠ p) (n2 : U ≠ q) (hk : (n : Int) ≤ most) (hpos : 0 < most) (hmm : most ≤ 9223372036854775807) (hk2 : n + 4 ≤ m) (hy : 0 < xs.length) :
    Calls Try.prog 44 #[.pointer (some ⟨p, 0, none⟩), bodyV fn (ptrV U), .int .i64 most] w fun e w' => e = .returned (.bool true) ∧ MemIs 77 w' p q (T.alone xs).2.1 ∧ w'.heap[U]? = some (o (T.alone xs).1) ∧ Only (fun k => k = q ∨ k = U) w w' := by
  have hle := T.alone_le xs
  refine (hB.run_all w p q xs most (.inl ⟨rfl, hm⟩) (lt_of_block hm.head) hm.row.lt ⟨x, hU⟩ ?_ (by omega) hpos hmm (by omega)).mono ?_
  · rintro k rfl
    exact ⟨n1, n2⟩
  · rintro e w' ⟨rfl, h1, h2, h3, h4⟩
    exact ⟨rfl, holds_mem h1 (by rw [T.alone_length]; exact hy), h3, h4⟩
end Go.Proofs.Ytapmakdklpbjkaa
