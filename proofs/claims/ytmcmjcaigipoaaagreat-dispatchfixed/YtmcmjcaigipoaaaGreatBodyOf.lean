/-
  To show that a method is a body that does a tree (body_of); a block that a body reads (readK), or turns (cellK); frame.Run of such. Conditions: all of it lies in blocks that are not the same.
-/
import Derived.Test.YtmcmjcaigipoaaaGreatDoes
import Derived.Deep.RegionHeld
namespace Go.Sept
open Go.RowKit
namespace Tree
theorem alone_le {α : Type} {n : Nat} (t : Tree α n) (xs : List Int) : (t.alone xs).2.2 ≤ n := by
  induction n generalizing xs with
  | zero => exact Nat.le_refl _
  | succ n ih =>
    rcases kinds t with ⟨x, rfl⟩ | ⟨k, a, v, u, f, rfl⟩ | ⟨f, rfl⟩ | ⟨t', rfl⟩
    · exact Nat.zero_le _
    · rw [alone_acc]
      exact Nat.succ_le_succ (ih _ _)
    · exact Nat.le_succ_of_le (ih (f false) xs)
    · exact Nat.le_succ_of_le (ih t' xs)
theorem alone_length {α : Type} {n : Nat} (t : Tree α n) (xs : List Int) : (t.alone xs).2.1.length = xs.length := by
  induction n generalizing xs with
  | zero => rfl
  | succ n ih =>
    rcases kinds t with ⟨x, rfl⟩ | ⟨k, a, v, u, f, rfl⟩ | ⟨f, rfl⟩ | ⟨t', rfl⟩
    · rfl
    · rw [alone_acc]
      exact (ih _ _).trans (length_aftA _ _ _ _ _)
    · exact ih (f false) xs
    · exact ih t' xs
end Tree
end Go.Sept

namespace Go.Proofs.YtmcmjcaigipoaaaGreat
open Go.RowKit Go.Sept

/-- To show that a method is a body that does a tree. -/
theorem body_of {α : Type} {n m : Nat} {T : Tree α n} {fn : Nat} {rcv : Value} {K : Kept α} (hent : ∀ (args : Array Value) (w : World), (callFunc fn args).run Tryz.prog w = .ok (.enter fn args) w) (hn : n ≤ 200000) (hm : m ≤ 100000)
    (h : ∀ w, K.Pre w → ∃ B : Bag, B.P w ∧ (∀ k, B.V k → K.V k) ∧ ∀ (F lb p q : Nat) (R : α × FrSt × List Int), At w F lb p q K.W B T R w →
      Calls Tryz.prog fn #[rcv, ptrV F] w fun e w' => ∃ (x : α) (B' : Bag), e = .returned (.tuple #[]) ∧ At w F lb p q K.W B' (Tree.ret x : Tree α 0) R w' ∧ (∀ k, K.V k → B'.V k) ∧ (B'.P w' → K.Pre w' ∧ K.Post w.heap.size x w')) : BodyIn T fn rcv K m where
  enters := hent
  small := hm
  does := fun w F lb p q s xs hN hf _ _ => by
    obtain ⟨B, hP, hV, hc⟩ := h w hN.pre
    refine (hc F lb p q _ (At.start hN.fm (hf.mono hn) hP (fun k hk => hN.apart k (hV k hk)))).mono ?_
    rintro e w' ⟨x, B', rfl, ⟨s', xs', lb1, a1, a2, a3, a4, a5, a6⟩, hV', hK⟩
    have hk := hK a4.1
    rw [← a6, Tree.run_ret]
    exact ⟨rfl, lb1, ⟨a1, hk.1, fun k hk => a4.2 k (hV' k hk)⟩, a2, a3, hk.2⟩

/-- One block that a body reads. -/
def readK (U : Nat) (o : Obj) : Kept Unit where
  V := fun k => k = U
  W := fun _ => False
  Pre := fun w => w.heap[U]? = some o
  Post := fun _ _ _ => True
  sub := fun _ h => h.elim
  low := fun w k h hk => by
    obtain rfl : k = U := hk
    exact lt_of_block h
  keep := fun S w w' h ho hv => (ho.block U (lt_of_block h) (hv U rfl)).trans h
  held := fun _ _ _ _ _ _ _ _ _ => trivial
  less := fun _ _ _ _ _ _ => trivial

/-- One block that a body turns by its answer. -/
def cellK {α : Type} (U : Nat) (o : α → Obj) : Kept α where
  V := fun k => k = U
  W := fun k => k = U
  Pre := fun w => ∃ x, w.heap[U]? = some (o x)
  Post := fun _ x w => w.heap[U]? = some (o x)
  sub := fun _ h => h
  low := fun w k h hk => by
    obtain ⟨x, h⟩ := h
    obtain rfl : k = U := hk
    exact lt_of_block h
  keep := fun S w w' h ho hv => by
    obtain ⟨x, h⟩ := h
    exact ⟨x, (ho.block U (lt_of_block h) (hv U rfl)).trans h⟩
  held := fun S b r w w' h ho hv _ => (ho.block U (lt_of_block h) (hv U rfl)).trans h
  less := fun _ _ _ _ h _ => h

/-- A store into the one block beside the frame. -/
theorem At.set {w w1 : World} {F lb p q : Nat} {β : Type} {n : Nat} {R : β × FrSt × List Int} {T : Tree β n} {U : Nat} {c : Array Value} {t : TypeId} (h : At w F lb p q (fun k => k = U) (Bag.one U (.cells c t)) T R w1) (i : Nat) (v : Value) : At w F lb p q (fun k => k = U) (Bag.one U (.cells (c.setIfInBounds i v) t)) T R (w1.setCell ⟨U, i, none⟩ v) :=
  h.turn (S2 := fun k => k = U) ((Only.self U w1).own i v) (fun _ h => h) (fun _ _ h => h) (block_setCell h.bag i v) (fun _ h => .inl h)

/-- A method whose body reads its own block. -/
theorem read_of {n : Nat} {T : Tree Unit n} (U : Nat) (o : Obj) (fn : Nat) (hent : ∀ (args : Array Value) (w : World), (callFunc fn args).run Tryz.prog w = .ok (.enter fn args) w) (hn : n ≤ 200000)
    (h : ∀ (w : World) (F lb p q : Nat) (R : Unit × FrSt × List Int), At w F lb p q (fun _ => False) (Bag.one U o) T R w →
      Calls Tryz.prog fn #[ptrV U, ptrV F] w fun e w' => e = .returned (.tuple #[]) ∧ At w F lb p q (fun _ => False) (Bag.one U o) (Tree.ret () : Tree Unit 0) R w') : BodyIn T fn (ptrV U) (readK U o) 6000 := by
  refine body_of hent hn (by decide) fun w hw => ⟨Bag.one U o, hw, fun _ h => h, fun F lb p q R h0 => (h w F lb p q R h0).mono ?_⟩
  rintro e w' ⟨rfl, h1⟩
  exact ⟨(), _, rfl, h1, fun _ h => h, fun h => ⟨h, trivial⟩⟩

/-- A body that only reads its own block, by frame.Run. -/
theorem run_reads {n m : Nat} {T : Tree Unit n} {fn U : Nat} {o : Obj} (hB : BodyIn T fn (ptrV U) (readK U o) m) (w : World) (p q : Nat) (xs : List Int) (most : Int) (hm : MemIs 130 w p q xs) (hU : w.heap[U]? = some o) (n1 : U ≠ p) (n2 : U ≠ q) (hk : (n : Int) ≤ most) (hpos : 0 < most) (hmm : most ≤ 9223372036854775807) (hk2 : n + 4 ≤ m) (hy : 0 < xs.length) :
    Calls Tryz.prog 12 #[.pointer (some ⟨p, 0, none⟩), bodyV fn (ptrV U), .int .i64 most] w fun e w' => e = .returned (.bool true) ∧ MemIs 130 w' p q (T.alone xs).2.1 ∧ Only (fun k => k = q) w w' := by
  have hle := T.alone_le xs
  refine (hB.run_all w p q xs most (.inl ⟨rfl, hm⟩) (lt_of_block hm.head) hm.row.lt hU ?_ (by omega) hpos hmm (by omega)).mono ?_
  · rintro k rfl
    exact ⟨n1, n2⟩
  · rintro e w' ⟨rfl, h1, h2, h3, h4⟩
    exact ⟨rfl, holds_mem h1 (by rw [T.alone_length]; exact hy), h4.mono (fun k _ e => e.elim (fun h => h) (fun h => h.elim))⟩

/-- A body that turns its own block, by frame.Run. -/
theorem run_turns {α : Type} {n m : Nat} {T : Tree α n} {fn U : Nat} {o : α → Obj} (hB : BodyIn T fn (ptrV U) (cellK U o) m) (w : World) (p q : Nat) (xs : List Int) (most : Int) (x : α) (hm : MemIs 130 w p q xs) (hU : w.heap[U]? = some (o x)) (n1 : U ≠ p) (n2 : U ≠ q) (hk : (n : Int) ≤ most) (hpos : 0 < most) (hmm : most ≤ 9223372036854775807) (hk2 : n + 4 ≤ m) (hy : 0 < xs.length) :
    Calls Tryz.prog 12 #[.pointer (some ⟨p, 0, none⟩), bodyV fn (ptrV U), .int .i64 most] w fun e w' => e = .returned (.bool true) ∧ MemIs 130 w' p q (T.alone xs).2.1 ∧ w'.heap[U]? = some (o (T.alone xs).1) ∧ Only (fun k => k = q ∨ k = U) w w' := by
  have hle := T.alone_le xs
  refine (hB.run_all w p q xs most (.inl ⟨rfl, hm⟩) (lt_of_block hm.head) hm.row.lt ⟨x, hU⟩ ?_ (by omega) hpos hmm (by omega)).mono ?_
  · rintro k rfl
    exact ⟨n1, n2⟩
  · rintro e w' ⟨rfl, h1, h2, h3, h4⟩
    exact ⟨rfl, holds_mem h1 (by rw [T.alone_length]; exact hy), h3, h4⟩
end Go.Proofs.YtmcmjcaigipoaaaGreat

/-
  frame.Run of a closure whose call does a tree of accesses, beside blocks that it reads. Conditions: all of it lies in blocks that are not the same; the body's own contract.
-/
namespace Go.Proofs.YtmcmjcaigipoaaaGreat
open Go.RowKit Go.Sept

section
variable {α : Type} {K : Kept α}
/-- A function whose call, with a frame, and what a closure holds, does the accesses of a tree, and leaves its answer beside the frame. -/
structure BodyCl {m : Nat} (T : Tree α m) (fn : Nat) (cap : Array Value) (K : Kept α) (n : Nat) : Prop where
  enters : ∀ (args : Array Value) (w : World), (callFunc fn args).run Tryz.prog w = .ok (.enter fn args) w
  small : n ≤ 100000
  does : ∀ (w : World) (F lb p q : Nat) (s : FrSt) (xs : List Int), Near K w F lb p q s xs → Fit 200000 s → s.asked ≤ s.most → s.most + 2 ≤ n →
    Calls Tryz.prog fn (#[.pointer (some ⟨F, 0, none⟩)] ++ cap) w fun e w' => e = .returned (.tuple #[]) ∧ Went K w F lb p q (T.run s xs).2.1 (T.run s xs).2.2 (T.run s xs).1 w'

/-- A closure that holds cap. -/
abbrev closV (fn : Nat) (cap : Array Value) : Value := .func (.func fn) #[] cap

variable {m : Nat} {T : Tree α m} {fn : Nat} {cap : Array Value} {n : Nat}
theorem BodyCl.step0 (hB : BodyCl T fn cap K n) (w : World) (F lb p q : Nat) (s : FrSt) (xs : List Int) (now : Int) (h : Near K w F lb p q s xs) (hd : s.done = false) (hu : s.underway = false) (hl : s.log.length + 3 ≤ n) :
    Calls Tryz.prog 40 #[.pointer (some ⟨F, 0, none⟩), .int .i64 now, closV fn cap] w fun e w' => e = .returned (.bool (!(T.run (s.begun now) xs).2.1.off)) ∧ Went K w F lb p q (over (T.run (s.begun now) xs).2.1) (T.run (s.begun now) xs).2.2 (T.run (s.begun now) xs).1 w' := by
  have hn := hB.small
  refine (step_rel w F lb s now h.fm.frame hd hu (by omega) fn #[] cap
    (fun w1 lb' s' => s' = (T.run (s.begun now) xs).2.1 ∧ Near K w1 F lb' p q s' (T.run (s.begun now) xs).2.2 ∧ (lb' = lb ∨ w.heap.size ≤ lb') ∧ Only (fun k => k = F ∨ k = lb ∨ k = q ∨ K.W k) w w1 ∧ K.Post w.heap.size (T.run (s.begun now) xs).1 w1)
    hB.enters ?_).mono ?_
  · intro w1 hf1 ho1
    have hB1 : Near K w1 F lb p q (s.begun now) xs := h.frame rfl hf1 ho1
    have hO2 : Only (fun _ => False) w1 (w1.alloc (.cells #[.pointer (some ⟨F, 0, none⟩)] 78)) := (Only.refl _ _).alloc _
    have hB2 := hB1.only hO2 (fun h => h) (fun h => h) (fun h => h) (fun h => h) (fun _ _ h => h)
    have e1 : (#[] : Array Value).push (.pointer (some ⟨F, 0, none⟩)) ++ cap = #[.pointer (some ⟨F, 0, none⟩)] ++ cap := rfl
    rw [e1]
    refine (hB.does _ F lb p q (s.begun now) xs hB2 ⟨by show 0 + 200000 ≤ 1048576; omega, by show s.log.length + 200000 ≤ 1000000; omega, Nat.zero_le _⟩ (Nat.zero_le _) (by show s.log.length + 1 + 2 ≤ n; omega)).mono ?_
    rintro e w3 ⟨rfl, lb', hB3, hl3, ho3, hp3⟩
    have z1 := ho1.size
    have z2 := hO2.size
    have y1 := hB1.fm.frame.lt
    have y2 := hB1.fm.ll
    have y3 := hB1.fm.lq
    refine ⟨rfl, lb', _, ⟨rfl, hB3, ?_, ?_, ?_⟩, hB3.fm.frame, ?_⟩
    · rcases hl3 with h9 | h9
      · exact .inl h9
      · exact .inr (by omega)
    · exact ((ho1.mono (T := fun k => k = F ∨ k = lb ∨ k = q ∨ K.W k) (fun _ _ e => .inl e)).chain hO2 (fun _ _ e => e.elim)).chain ho3 (fun _ _ e => e)
    · exact K.less _ _ _ _ hp3 (by omega)
    · rw [ho3.block w1.heap.size (by simp) (by
        rintro (e | e | e | e)
        · omega
        · omega
        · omega
        · have := K.low _ _ hB1.pre (K.sub _ e)
          omega)]
      exact heap_new _ _
  · rintro e w3 ⟨w2, lb', s', ⟨rfl, hB2, hlb, hO2, hP2⟩, rfl, hf3, ho3⟩
    refine ⟨rfl, lb', hB2.frame rfl hf3 ho3, hlb, hO2.chain ho3 (fun _ _ e => .inl e), ?_⟩
    refine K.held _ _ _ _ _ hP2 ho3 (fun k hk e => (h.apart k hk).1 e) (fun k hk e => ?_)
    have := h.fm.frame.lt
    have e' : k = F := e
    omega

/-- A step that does an access; T' is where the body stands behind it. -/
theorem BodyCl.step (hB : BodyCl T fn cap K n) (w : World) (F lb p q : Nat) (s : FrSt) (xs : List Int) (now : Int) (h : Near K w F lb p q s xs) (hd : s.done = false) (hu : s.underway = false) (hl : s.log.length + 3 ≤ n)
    {A : AccS α} (ht : T.after s.answers = some (Sum.inr A)) :
    Calls Tryz.prog 40 #[.pointer (some ⟨F, 0, none⟩), .int .i64 now, closV fn cap] w fun e w' => ∃ s' T', e = .returned (.bool (!(Tree.hmore T'))) ∧
      Went K w F lb p q s' (aftA A.k A.a A.v A.u xs) (Tree.hval T') w' ∧ s'.log = s.log ++ [(ansA A.k A.a A.u xs, now)] ∧ s'.mp = s.mp ∧ s'.underway = false ∧ s'.done = !(Tree.hmore T') ∧ T.after s'.answers = some T' ∧ (A.f (ansA A.k A.a A.u xs)).after [] = some T' := by
  obtain ⟨s', h1, h2, h3, h4, _⟩ := Tree.step T s now xs ht
  refine (hB.step0 w F lb p q s xs now h hd hu hl).mono ?_
  rintro e w' ⟨rfl, hS⟩
  rw [h1] at hS ⊢
  obtain ⟨T', ht1, _, ht4, ht5⟩ := Tree.after_nil (A.f (ansA A.k A.a A.u xs))
  refine ⟨over s', T', by rw [h2, ht5], by rw [ht4]; exact hS, h3, h4, rfl, by rw [over, h2, ht5], ?_, ht1⟩
  rw [answers_snoc (s' := over s') h3, Tree.after_snoc T _ ht, ht1]

/-- A step of a body without an access more. -/
theorem BodyCl.step_end (hB : BodyCl T fn cap K n) (w : World) (F lb p q : Nat) (s : FrSt) (xs : List Int) (now : Int) (h : Near K w F lb p q s xs) (hd : s.done = false) (hu : s.underway = false) (hl : s.log.length + 3 ≤ n)
    {x : α} (ht : T.after s.answers = some (Sum.inl x)) :
    Calls Tryz.prog 40 #[.pointer (some ⟨F, 0, none⟩), .int .i64 now, closV fn cap] w fun e w' => ∃ s', e = .returned (.bool true) ∧
      Went K w F lb p q s' xs x w' ∧ s'.log = s.log ∧ s'.mp = s.mp ∧ s'.underway = false ∧ s'.done = true := by
  obtain ⟨s', h1, h2, h3, h4, _⟩ := Tree.step_end T s now xs ht
  refine (hB.step0 w F lb p q s xs now h hd hu hl).mono ?_
  rintro e w' ⟨rfl, hS⟩
  rw [h1] at hS ⊢
  exact ⟨over s', by rw [h2]; rfl, hS, h3, h4, rfl, by rw [over, h2]; rfl⟩

set_option maxRecDepth 100000 in
set_option maxHeartbeats 1000000 in
theorem BodyCl.run_all (hB : BodyCl T fn cap K n) (w : World) (p q : Nat) (xs : List Int) (most : Int) (hm : Holds 130 w (.pointer (some ⟨p, 0, none⟩)) p q xs) (lp : p < w.heap.size) (lq : q < w.heap.size) (hK : K.Pre w) (hV : ∀ k, K.V k → k ≠ p ∧ k ≠ q)
    (hmost : ((T.alone xs).2.2 : Int) ≤ most) (hpos : 0 < most) (hmm : most ≤ 9223372036854775807) (hn : (T.alone xs).2.2 + 4 ≤ n) :
    Calls Tryz.prog 12 #[.pointer (some ⟨p, 0, none⟩), closV fn cap, .int .i64 most] w fun e w' => e = .returned (.bool true) ∧ Holds 130 w' (.pointer (some ⟨p, 0, none⟩)) p q (T.alone xs).2.1 ∧ K.Pre w' ∧ K.Post w.heap.size (T.alone xs).1 w' ∧ Only (fun k => k = q ∨ K.W k) w w' := by
  have HN0 := hid hn
  have HM := hid hm
  have HK := hid hK
  have HV := hid hV
  have HMO := hid hmost
  have hsm := hB.small
  obtain ⟨R, hR⟩ : ∃ R, T.alone xs = R := ⟨_, rfl⟩
  rw [hR] at HMO HN0
  rw [hR]
  have HR := hid hR
  clear hm hK hV hmost hR hn
  go_enter Tryz.func12, Tryz.ntmps12
  go_wp2_with fail
  refine (fnew_rel _ _).mono ?_
  rintro e w1 ⟨F, rfl, hf1, hF, ho1⟩
  have z1 := ho1.size
  have HB1 : Hid (Near K w1 F F p q (fresh (some ⟨p, 0, none⟩)) xs) :=
    ⟨⟨hf1, HM.out.only ho1 (fun h => h) (fun h => h), by omega, by omega, hf1.lt, by omega, by omega, by omega, by omega⟩, K.keep _ _ _ HK.out ho1 (fun _ _ h => h), fun k hk => by
      have h1 := K.low _ _ HK.out hk
      have h2 := HV.out k hk
      exact ⟨by omega, by omega, h2.1, h2.2⟩⟩
  have HO1 := hid (ho1.mono (T := fun k => k = q ∨ K.W k) (fun _ _ h => h.elim))
  have lF : w.heap.size ≤ F := by omega
  clear hf1 ho1 HM HK hF
  go_wp2_with fail
  go_loopw [12] (fun i wx => ∃ j : Nat, i = .int .i64 (j : Int) ∧ (∃ lb s ys t, Near K wx F lb p q s ys ∧ T.after s.answers = some t ∧ Tree.halone t ys = (R.1, R.2.1, R.2.2 - j) ∧ ((∃ x, t = Sum.inl x ∧ j = 0) ∨ ∃ A, t = Sum.inr A) ∧ j ≤ R.2.2 ∧ s.log.length = j ∧ s.mp = some ⟨p, 0, none⟩ ∧ s.underway = false ∧ s.done = false ∧ w.heap.size ≤ lb) ∧ Only (fun k => k = q ∨ K.W k) w wx) (fun i _ => R.2.2 + 1 - (intOf i).toNat)
  case atStart =>
    obtain ⟨t', ht1, ht2, _⟩ := Tree.after_nil T
    refine ⟨0, rfl, ⟨F, _, xs, t', HB1.out, ht1, by rw [ht2, HR.out]; rfl, ?_, Nat.zero_le _, rfl, rfl, rfl, rfl, lF⟩, HO1.out⟩
    rcases t' with x | A
    · exact .inl ⟨x, rfl, rfl⟩
    · exact .inr ⟨A, rfl⟩
  case round =>
    obtain ⟨j, rfl, ⟨lb, s, ys, t, hb, ht, hal, hty, hjn, hlen, t1, t2, t3, t4⟩, hOx⟩ := hrel
    have hjm : (j : Int) < most := by
      have h1 := HMO.out
      rcases hty with ⟨x, hx, rfl⟩ | ⟨A, rfl⟩
      · omega
      · have h2 : R.2.2 - j ≠ 0 := by
          have h3 := congrArg (fun z => z.2.2) hal
          simp only [Tree.halone] at h3
          omega
        omega
    have HBx := hid hb
    have HT := hid (And.intro ht (And.intro hal (And.intro t1 (And.intro t2 t3))))
    have HLL := hid hlen
    have HLB := hid t4
    have HOnly : Hid (∀ w9, Only (fun k => k = F ∨ k = lb ∨ k = q ∨ K.W k) wr w9 → Only (fun k => k = q ∨ K.W k) w w9) := by
      intro w9 h9
      refine hOx.chain h9 (fun i hi e => ?_)
      rcases e with e | e | e | e
      · omega
      · omega
      · exact .inl e
      · exact .inr e
    have HZ := hid hOx.size
    have HL3 : Hid (s.log.length + 3 ≤ n) := by have := HN0.out; show _ ≤ _; omega
    clear hb ht hal t1 t2 t3 t4 hOx HB1 HO1 hlen
    rcases hty with ⟨x, hx, hj0⟩ | ⟨A, hx⟩
    · have HX := hid (And.intro hx hj0)
      clear hx hj0
      go_wp2_with fail
      refine (hB.step_end _ F lb p q s ys _ HBx.out HT.out.2.2.2.2 HT.out.2.2.2.1 HL3.out (HX.out.1 ▸ HT.out.1)).mono ?_
      rintro e w9 ⟨s', rfl, ⟨lb9, hb9, hl9, ho9, hp9⟩, h3, h4, _, _⟩
      have hal := HT.out.2.1
      rw [HX.out.1] at hal
      simp only [Tree.halone] at hal
      have HE : Hid (Holds 130 w9 (.pointer (some ⟨p, 0, none⟩)) p q R.2.1 ∧ K.Pre w9 ∧ K.Post w.heap.size R.1 w9 ∧ Only (fun k => k = q ∨ K.W k) w w9) := by
        have e1 : x = R.1 := congrArg (fun z => z.1) hal
        have e2 : ys = R.2.1 := congrArg (fun z => z.2.1) hal
        rw [← e1, ← e2]
        have h9 := hb9.fm.mem
        rw [h4.trans HT.out.2.2.1] at h9
        exact ⟨h9, hb9.pre, K.less _ _ _ _ hp9 HZ.out, HOnly.out _ ho9⟩
      clear hb9 hl9 ho9 hp9 hal h3 h4
      go_wp2_with fail
      go_ret
      exact ⟨rfl, HE.out⟩
    · have HX := hid hx
      clear hx
      go_wp2_with fail
      refine (hB.step _ F lb p q s ys _ HBx.out HT.out.2.2.2.2 HT.out.2.2.2.1 HL3.out (HX.out ▸ HT.out.1)).mono ?_
      rintro e w9 ⟨s', t', rfl, ⟨lb9, hb9, hl9, ho9, hp9⟩, g1, g2, g3, g4, haft, ht1⟩
      have hal := HT.out.2.1
      rw [HX.out] at hal
      simp only [Tree.halone] at hal
      obtain ⟨t2, ht1', ht2, _, _⟩ := Tree.after_nil (A.f (ansA A.k A.a A.u ys))
      obtain rfl : t2 = t' := Option.some.inj (ht1'.symm.trans ht1)
      have hlog : s'.log.length = j + 1 := by rw [g1, List.length_append, HLL.out]; rfl
      have e1 : Tree.halone t2 (aftA A.k A.a A.v A.u ys) = (R.1, R.2.1, R.2.2 - (j + 1)) := by
        rw [ht2]
        have e3 := congrArg (fun z => z.1) hal
        have e4 := congrArg (fun z => z.2.1) hal
        have e5 := congrArg (fun z => z.2.2) hal
        simp only at e3 e4 e5
        rw [← e3, ← e4]
        refine Prod.ext rfl (Prod.ext rfl ?_)
        show _ = R.2.2 - (j + 1)
        omega
      have hjn' : j + 1 ≤ R.2.2 := by
        have e5 := congrArg (fun z => z.2.2) hal
        simp only at e5
        omega
      have HO9 := hid (HOnly.out _ ho9)
      have HL9 : Hid (w.heap.size ≤ lb9) := by have := HZ.out; have := HLB.out; show _ ≤ _; omega
      have HG := hid (And.intro (g2.trans HT.out.2.2.1) g3)
      have HF9 := hid hb9.fm.frame
      have HB9 := hid hb9
      have HLOG := hid hlog
      have HAFT := hid haft
      have HE1 := hid e1
      have HJN := hid hjn'
      have HP9 := hid (K.less _ _ _ _ hp9 HZ.out)
      rcases t2 with x | A'
      · simp only [Tree.hmore, Bool.not_false]
        have HE : Hid (Holds 130 w9 (.pointer (some ⟨p, 0, none⟩)) p q R.2.1 ∧ K.Pre w9 ∧ K.Post w.heap.size R.1 w9 ∧ Only (fun k => k = q ∨ K.W k) w w9) := by
          simp only [Tree.halone] at e1
          have e2 : x = R.1 := congrArg (fun z => z.1) e1
          have e3 : aftA A.k A.a A.v A.u ys = R.2.1 := congrArg (fun z => z.2.1) e1
          rw [← e2, ← e3]
          have h9 := hb9.fm.mem
          rw [HG.out.1] at h9
          exact ⟨h9, hb9.pre, HP9.out, HO9.out⟩
        clear hal ht1 ht1' ht2 hlog haft e1 hjn' g1 g2 g3 g4 hl9 ho9 hb9 hp9 HP9
        go_wp2_with fail
        go_ret
        exact ⟨rfl, HE.out⟩
      · simp only [Tree.hmore, Bool.not_true] at g4 ⊢
        have HG4 := hid g4
        have hne : ((j : Int) + 1 == (j : Int)) = false := beq_eq_false_iff_ne.2 (by omega)
        have hj60 : (j : Int) ≤ 200000 := by have := HN0.out; have := HJN.out; omega
        clear hal ht1 ht1' ht2 hlog haft e1 hjn' g1 g2 g3 g4 hl9 ho9 hb9 hp9 HP9
        go_wp2_with fail
        refine (steps_rel _ _ _ _ HF9.out).mono ?_
        rintro e w10 ⟨rfl, rfl⟩
        rw [HLOG.out]
        push_cast
        go_wp2_with fail
        go_roundw
        case rel => exact ⟨j + 1, by go_num, ⟨lb9, s', _, _, HB9.out, HAFT.out, HE1.out, .inr ⟨_, rfl⟩, HJN.out, HLOG.out, HG.out.1, HG.out.2, HG4.out, HL9.out⟩, HO9.out⟩
        case measure => have := HJN.out; simp [intOf]; omega
end

/-- What a bag says, kept. -/
def bagK (B : Bag) : Kept Unit where
  V := B.V
  W := fun _ => False
  Pre := B.P
  Post := fun _ _ _ => True
  sub := fun _ h => h.elim
  low := fun w k h hk => B.low w k h hk
  keep := fun S w w' h ho hv => B.keep S w w' h ho hv
  held := fun _ _ _ _ _ _ _ _ _ => trivial
  less := fun _ _ _ _ _ _ => trivial

/-- To show that a closure does a tree. -/
theorem clos_of {n : Nat} {T : Tree Unit n} {fn : Nat} {cap : Array Value} {B : Bag} (args : Value → Array Value) (hargs : ∀ v, #[v] ++ cap = args v) (hent : ∀ (args : Array Value) (w : World), (callFunc fn args).run Tryz.prog w = .ok (.enter fn args) w) (hn : n ≤ 200000)
    (h : ∀ (w : World) (F lb p q : Nat) (R : Unit × FrSt × List Int), At w F lb p q (fun _ => False) B T R w →
      Calls Tryz.prog fn (args (ptrV F)) w fun e w' => ∃ x, e = .returned (.tuple #[]) ∧ At w F lb p q (fun _ => False) B (Tree.ret x : Tree Unit 0) R w') : BodyCl T fn cap (bagK B) 6000 where
  enters := hent
  small := by decide
  does := fun w F lb p q s xs hN hf _ _ => by
    rw [hargs]
    refine (h w F lb p q _ (At.start hN.fm (hf.mono hn) hN.pre (fun k hk => hN.apart k hk))).mono ?_
    rintro e w' ⟨x, rfl, ⟨s', xs', lb1, a1, a2, a3, a4, a5, a6⟩⟩
    rw [← a6, Tree.run_ret]
    exact ⟨rfl, lb1, ⟨a1, a4.1, fun k hk => a4.2 k hk⟩, a2, a3, trivial⟩

/-- frame.Run of such a closure. -/
theorem clos_run {n : Nat} {T : Tree Unit n} {fn : Nat} {cap : Array Value} {B : Bag} (hB : BodyCl T fn cap (bagK B) 6000) (w : World) (p q : Nat) (xs : List Int) (most : Int) (hm : MemIs 130 w p q xs) (hP : B.P w) (hV : ∀ k, B.V k → k ≠ p ∧ k ≠ q) (hk : (n : Int) ≤ most) (hpos : 0 < most) (hmm : most ≤ 5000) (hy : 0 < xs.length) :
    Calls Tryz.prog 12 #[.pointer (some ⟨p, 0, none⟩), closV fn cap, .int .i64 most] w fun e w' => e = .returned (.bool true) ∧ MemIs 130 w' p q (T.alone xs).2.1 ∧ Only (fun k => k = q) w w' := by
  have hle := T.alone_le xs
  refine (hB.run_all w p q xs most (.inl ⟨rfl, hm⟩) (lt_of_block hm.head) hm.row.lt hP hV (by omega) hpos (by omega) (by omega)).mono ?_
  rintro e w' ⟨rfl, h1, h2, h3, h4⟩
  exact ⟨rfl, holds_mem h1 (by rw [T.alone_length]; exact hy), h4.mono (fun k _ e => e.elim (fun h => h) (fun h => h.elim))⟩
end Go.Proofs.YtmcmjcaigipoaaaGreat
