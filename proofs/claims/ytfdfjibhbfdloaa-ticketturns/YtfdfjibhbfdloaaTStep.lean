/-
  A step of a frame with a body that is a tree of accesses, kept beside a block of its own. Conditions: all of it lies in blocks that are not the same; the frame is not done; the body's own contract.
-/
import Derived.Test.YtfdfjibhbfdloaaUser3
import Derived.Shelf.Abstract
namespace Go.Proofs.Ytfdfjibhbfdloaa
open Go.RowKit Go.Sept

theorem Beside.frame {w w' : World} {F lb p q U : Nat} {s s' : FrSt} {xs : List Int} {c : Array Value} {tu : TypeId} (h : Beside w F lb p q U s xs c tu) (hm : s'.mp = s.mp) (hf : FrameIs w' F lb s') (ho : Only (· = F) w w') : Beside w' F lb p q U s' xs c tu :=
  ⟨h.fm.replay hm hf ho, (ho.block U (lt_of_block h.blk) h.n1).trans h.blk, h.n1, h.n2, h.n3, h.n4⟩
theorem Beside.only {w w' : World} {F lb p q U : Nat} {s : FrSt} {xs : List Int} {c : Array Value} {tu : TypeId} {S : Nat → Prop} (h : Beside w F lb p q U s xs c tu) (ho : Only S w w') (a1 : ¬ S F) (a2 : ¬ S lb) (a3 : ¬ S p) (a4 : ¬ S q) (a5 : ¬ S U) : Beside w' F lb p q U s xs c tu :=
  ⟨h.fm.only ho a1 a2 a3 a4, (ho.block U (lt_of_block h.blk) a5).trans h.blk, h.n1, h.n2, h.n3, h.n4⟩
/-- Where only the memory's row has turned. -/
theorem Beside.mem {w w' : World} {F lb p q U : Nat} {s : FrSt} {xs ys : List Int} {c : Array Value} {tu : TypeId} {S : Nat → Prop} (h : Beside w F lb p q U s xs c tu) (ho : Only S w w') (hm : Holds 74 w' (.pointer s.mp) p q ys) (a1 : ¬ S F) (a2 : ¬ S lb) (a5 : ¬ S U) : Beside w' F lb p q U s ys c tu :=
  ⟨⟨h.fm.frame.only ho a1 a2, hm, Nat.lt_of_lt_of_le h.fm.lp ho.size, Nat.lt_of_lt_of_le h.fm.lq ho.size, Nat.lt_of_lt_of_le h.fm.ll ho.size, h.fm.n1, h.fm.n2, h.fm.n3, h.fm.n4⟩, (ho.block U (lt_of_block h.blk) a5).trans h.blk, h.n1, h.n2, h.n3, h.n4⟩

/-- A frame behind a step. -/
def over (s : FrSt) : FrSt := { s with underway := false, done := !s.off }
/-- The value of a body that is a method of a block. -/
abbrev methV (fn U : Nat) : Value := .func (.func fn) #[.pointer (some ⟨U, 0, none⟩)] #[]

theorem tree_step {α : Type} {m : Nat} (T : Tree α m) (fn : Nat) (hent : ∀ (args : Array Value) (w : World), (callFunc fn args).run Try.prog w = .ok (.enter fn args) w) (cellsOf : α → Array Value) (tu : TypeId) (w : World) (F lb p q U : Nat) (s : FrSt) (xs : List Int) (c : Array Value) (now : Int)
    (h : Beside w F lb p q U s xs c tu) (hd : s.done = false) (hu : s.underway = false) (hl : s.log.length ≤ 1000000)
    (hbody : ∀ w1, Beside w1 F lb p q U (s.begun now) xs c tu → Calls Try.prog fn #[.pointer (some ⟨U, 0, none⟩), .pointer (some ⟨F, 0, none⟩)] w1 fun e w' => e = .returned (.tuple #[]) ∧ Stays w1 F lb p q U (T.run (s.begun now) xs).2.1 (T.run (s.begun now) xs).2.2 (cellsOf (T.run (s.begun now) xs).1) tu w') :
    Calls Try.prog 13 #[.pointer (some ⟨F, 0, none⟩), .int .i64 now, methV fn U] w fun e w' => e = .returned (.bool (!(T.run (s.begun now) xs).2.1.off)) ∧ Stays w F lb p q U (over (T.run (s.begun now) xs).2.1) (T.run (s.begun now) xs).2.2 (cellsOf (T.run (s.begun now) xs).1) tu w' := by
  refine (step_rel w F lb s now h.fm.frame hd hu hl fn #[.pointer (some ⟨U, 0, none⟩)] #[]
    (fun w1 lb' s' => s' = (T.run (s.begun now) xs).2.1 ∧ Beside w1 F lb' p q U s' (T.run (s.begun now) xs).2.2 (cellsOf (T.run (s.begun now) xs).1) tu ∧ (lb' = lb ∨ w.heap.size ≤ lb') ∧ Only (fun k => k = F ∨ k = lb ∨ k = q ∨ k = U) w w1)
    hent ?_).mono ?_
  · intro w1 hf1 ho1
    have hB1 : Beside w1 F lb p q U (s.begun now) xs c tu := h.frame rfl hf1 ho1
    have hO2 : Only (fun _ => False) w1 (w1.alloc (.cells #[.pointer (some ⟨F, 0, none⟩)] 28)) := (Only.refl _ _).alloc _
    have hB2 := hB1.only hO2 (fun h => h) (fun h => h) (fun h => h) (fun h => h) (fun h => h)
    have e1 : (#[Value.pointer (some ⟨U, 0, none⟩)] : Array Value).push (.pointer (some ⟨F, 0, none⟩)) ++ #[] = #[.pointer (some ⟨U, 0, none⟩), .pointer (some ⟨F, 0, none⟩)] := by simp
    rw [e1]
    refine (hbody _ hB2).mono ?_
    rintro e w3 ⟨rfl, lb', hB3, hl3, ho3⟩
    have z1 := ho1.size
    have z2 := hO2.size
    have y1 := hB1.fm.frame.lt
    have y2 := hB1.fm.ll
    have y3 := hB1.fm.lq
    have y4 := lt_of_block hB1.blk
    refine ⟨rfl, lb', _, ⟨rfl, hB3, ?_, ?_⟩, hB3.fm.frame, ?_⟩
    · rcases hl3 with h9 | h9
      · exact .inl h9
      · exact .inr (by omega)
    · exact ((ho1.mono (T := fun k => k = F ∨ k = lb ∨ k = q ∨ k = U) (fun _ _ e => .inl e)).chain hO2 (fun _ _ e => e.elim)).chain ho3 (fun _ _ e => e)
    · rw [ho3.block w1.heap.size (by simp) (by rintro (e | e | e | e) <;> omega)]
      exact heap_new _ _
  · rintro e w3 ⟨w2, lb', s', ⟨rfl, hB2, hlb, hO2⟩, rfl, hf3, ho3⟩
    exact ⟨rfl, lb', hB2.frame rfl hf3 ho3, hlb, hO2.chain ho3 (fun _ _ e => .inl e)⟩

/-- A function whose call, with a block and a frame, does the accesses of a tree, and leaves its answer in the block. -/
structure BodyOf {α : Type} {m : Nat} (T : Tree α m) (fn : Nat) (cellsOf : α → Array Value) (tu : TypeId) (n : Nat) : Prop where
  enters : ∀ (args : Array Value) (w : World), (callFunc fn args).run Try.prog w = .ok (.enter fn args) w
  small : n ≤ 100000
  does : ∀ (w : World) (F lb p q U : Nat) (s : FrSt) (xs : List Int) (r : α), Beside w F lb p q U s xs (cellsOf r) tu → Fit 200000 s → s.asked ≤ s.most → s.most + 2 ≤ n →
    Calls Try.prog fn #[.pointer (some ⟨U, 0, none⟩), .pointer (some ⟨F, 0, none⟩)] w fun e w' => e = .returned (.tuple #[]) ∧ Stays w F lb p q U (T.run s xs).2.1 (T.run s xs).2.2 (cellsOf (T.run s xs).1) tu w'

section
variable {α : Type} {m : Nat} {T : Tree α m} {fn : Nat} {cellsOf : α → Array Value} {tu : TypeId} {n : Nat}
theorem BodyOf.step0 (hB : BodyOf T fn cellsOf tu n) (w : World) (F lb p q U : Nat) (s : FrSt) (xs : List Int) (r : α) (now : Int) (h : Beside w F lb p q U s xs (cellsOf r) tu) (hd : s.done = false) (hu : s.underway = false) (hl : s.log.length + 3 ≤ n) :
    Calls Try.prog 13 #[.pointer (some ⟨F, 0, none⟩), .int .i64 now, methV fn U] w fun e w' => e = .returned (.bool (!(T.run (s.begun now) xs).2.1.off)) ∧ Stays w F lb p q U (over (T.run (s.begun now) xs).2.1) (T.run (s.begun now) xs).2.2 (cellsOf (T.run (s.begun now) xs).1) tu w' := by
  have hn := hB.small
  exact tree_step T fn hB.enters cellsOf tu w F lb p q U s xs _ now h hd hu (by omega) fun w1 hb => hB.does w1 F lb p q U (s.begun now) xs r hb ⟨by show 0 + 200000 ≤ 1048576; omega, by show s.log.length + 200000 ≤ 1000000; omega, Nat.zero_le _⟩ (Nat.zero_le _) (by show s.log.length + 1 + 2 ≤ n; omega)

/-- A step that does an access. -/
theorem BodyOf.step (hB : BodyOf T fn cellsOf tu n) (w : World) (F lb p q U : Nat) (s : FrSt) (xs : List Int) (r : α) (now : Int) (h : Beside w F lb p q U s xs (cellsOf r) tu) (hd : s.done = false) (hu : s.underway = false) (hl : s.log.length + 3 ≤ n)
    {A : AccS α} (ht : T.after s.answers = some (Sum.inr A)) :
    Calls Try.prog 13 #[.pointer (some ⟨F, 0, none⟩), .int .i64 now, methV fn U] w fun e w' => ∃ s', e = .returned (.bool (!(A.f (ansA A.k A.a A.u xs)).more)) ∧
      Stays w F lb p q U s' (aftA A.k A.a A.v A.u xs) (cellsOf (A.f (ansA A.k A.a A.u xs)).val) tu w' ∧ s'.log = s.log ++ [(ansA A.k A.a A.u xs, now)] ∧ s'.mp = s.mp ∧ s'.underway = false ∧ s'.done = !(A.f (ansA A.k A.a A.u xs)).more := by
  obtain ⟨s', h1, h2, h3, h4, _⟩ := Tree.step T s now xs ht
  refine (hB.step0 w F lb p q U s xs r now h hd hu hl).mono ?_
  rintro e w' ⟨rfl, hS⟩
  rw [h1] at hS ⊢
  exact ⟨over s', by rw [h2], hS, h3, h4, rfl, by rw [over, h2]⟩
end

abbrev userCells (a : Int) (r : Int × Int × Bool) : Array Value := #[.int .i64 a, .int .i64 r.1, .int .i64 r.2.1, .bool r.2.2]
abbrev userV (U : Nat) : Value := methV 25 U
theorem user_of (n : Nat) (hn : n ≤ 50000) (a : Int) : BodyOf (userT n a) 25 (userCells a) 62 n where
  enters := enters_of Try.func25 (by kernel_rfl) rfl
  small := by omega
  does := fun w F lb p q U s xs r h hf h1 h2 => user_body n w F lb p q U s xs a _ _ _ h (hf.mono (by omega)) h1 h2
end Go.Proofs.Ytfdfjibhbfdloaa
