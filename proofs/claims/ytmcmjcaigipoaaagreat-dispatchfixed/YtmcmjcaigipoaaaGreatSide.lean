/-
  A frame with a body that is a tree of accesses, kept beside a block of its own: its steps, and frame.Run of it. Conditions: all of it lies in blocks that are not the same; the body's own contract.
-/
import Derived.Test.YtmcmjcaigipoaaaGreatFrame6
import Derived.Test.YtmcmjcaigipoaaaGreatTree
import Derived.Shelf.Abstract
namespace Go.Proofs.YtmcmjcaigipoaaaGreat
open Go.RowKit Go.Sept

theorem fit_ready {n : Nat} {s : FrSt} (h : Fit (n + 1) s) : Ready s := ⟨by have := h.heard; omega, by have := h.short; omega, h.behind⟩

theorem left_chain {w w1 w2 : World} {F lb lb1 p q : Nat} {s2 : FrSt} {xs2 : List Int} (h2 : lb1 = lb ∨ w.heap.size ≤ lb1) (h3 : Only (fun x => x = F ∨ x = lb ∨ x = q) w w1) (k : Left w1 F lb1 p q s2 xs2 w2) : Left w F lb p q s2 xs2 w2 := by
  obtain ⟨lb2, k1, k2, k3⟩ := k
  have z := h3.size
  refine ⟨lb2, k1, by omega, h3.chain k3 (fun i hi e => ?_)⟩
  rcases e with e | e | e
  · exact .inl e
  · rcases h2 with h2 | h2
    · exact .inr (.inl (e.trans h2))
    · omega
  · exact .inr (.inr e)

theorem foff_left {w : World} {F lb p q : Nat} {s : FrSt} {xs : List Int} (h : FMIs w F lb p q s xs) : Calls Tryz.prog 132 #[.pointer (some ⟨F, 0, none⟩)] w fun e w' => e = .returned (.bool (!s.underway || s.off)) ∧ w' = w := off_rel w F lb s h.frame

/-- A frame, its memory, and a block beside them. -/
structure Beside (w : World) (F lb p q U : Nat) (s : FrSt) (xs : List Int) (c : Array Value) (tu : TypeId) : Prop where
  fm : FMIs w F lb p q s xs
  blk : w.heap[U]? = some (.cells c tu)
  n1 : U ≠ F
  n2 : U ≠ lb
  n3 : U ≠ p
  n4 : U ≠ q

/-- What is left of it, and what else has turned. -/
def Stays (w : World) (F lb p q U : Nat) (s : FrSt) (xs : List Int) (c : Array Value) (tu : TypeId) (w' : World) : Prop :=
  ∃ lb', Beside w' F lb' p q U s xs c tu ∧ (lb' = lb ∨ w.heap.size ≤ lb') ∧ Only (fun k => k = F ∨ k = lb ∨ k = q ∨ k = U) w w'

section
variable {w w1 w2 : World} {F lb p q U : Nat} {s s1 s2 : FrSt} {xs xs1 xs2 : List Int} {c c1 c2 : Array Value} {tu : TypeId}
theorem Beside.self (h : Beside w F lb p q U s xs c tu) : Stays w F lb p q U s xs c tu w := ⟨lb, h, .inl rfl, Only.refl _ _⟩
theorem Stays.left (h : Stays w F lb p q U s1 xs1 c tu w1) {lb1 : Nat} (hb : Beside w1 F lb1 p q U s1 xs1 c tu) (hl : lb1 = lb ∨ w.heap.size ≤ lb1) (k : Left w1 F lb1 p q s2 xs2 w2) : Stays w F lb p q U s2 xs2 c tu w2 := by
  obtain ⟨_, _, _, h3⟩ := h
  obtain ⟨lb2, k1, k2, k3⟩ := k
  have z := h3.size
  have hU := lt_of_block hb.blk
  have a1 := hb.n1
  have a2 := hb.n2
  have a4 := hb.n4
  refine ⟨lb2, ⟨k1, (k3.block U hU (by omega)).trans hb.blk, a1, by omega, hb.n3, a4⟩, by omega, h3.chain k3 (fun i hi e => ?_)⟩
  omega
theorem Stays.set (h : Stays w F lb p q U s1 xs1 c tu w1) (i : Nat) (v : Value) : Stays w F lb p q U s1 xs1 (c.setIfInBounds i v) tu (w1.setCell ⟨U, i, none⟩ v) := by
  obtain ⟨lb1, hb, h2, h3⟩ := h
  have ho := (Only.self U w1).own i v
  refine ⟨lb1, ⟨hb.fm.only ho (fun e => hb.n1 e.symm) (fun e => hb.n2 e.symm) (fun e => hb.n3 e.symm) (fun e => hb.n4 e.symm), block_setCell hb.blk i v, hb.n1, hb.n2, hb.n3, hb.n4⟩, h2, h3.chain ho (fun _ _ e => .inr (.inr (.inr e)))⟩
theorem Stays.drew (h : Stays w F lb p q U s1 xs1 c tu w1) : Stays w F lb p q U s1 xs1 c tu w1.drew := by
  obtain ⟨lb1, hb, h2, h3⟩ := h
  have ho := (Only.refl (fun _ => False) w1).drew
  exact ⟨lb1, ⟨hb.fm.only ho (fun h => h) (fun h => h) (fun h => h) (fun h => h), hb.blk, hb.n1, hb.n2, hb.n3, hb.n4⟩, h2, h3.drew⟩
end

theorem Beside.frame {w w' : World} {F lb p q U : Nat} {s s' : FrSt} {xs : List Int} {c : Array Value} {tu : TypeId} (h : Beside w F lb p q U s xs c tu) (hm : s'.mp = s.mp) (hf : FrameIs w' F lb s') (ho : Only (· = F) w w') : Beside w' F lb p q U s' xs c tu :=
  ⟨h.fm.replay hm hf ho, (ho.block U (lt_of_block h.blk) h.n1).trans h.blk, h.n1, h.n2, h.n3, h.n4⟩
theorem Beside.only {w w' : World} {F lb p q U : Nat} {s : FrSt} {xs : List Int} {c : Array Value} {tu : TypeId} {S : Nat → Prop} (h : Beside w F lb p q U s xs c tu) (ho : Only S w w') (a1 : ¬ S F) (a2 : ¬ S lb) (a3 : ¬ S p) (a4 : ¬ S q) (a5 : ¬ S U) : Beside w' F lb p q U s xs c tu :=
  ⟨h.fm.only ho a1 a2 a3 a4, (ho.block U (lt_of_block h.blk) a5).trans h.blk, h.n1, h.n2, h.n3, h.n4⟩
/-- Where only the memory's row has turned. -/
theorem Beside.mem {w w' : World} {F lb p q U : Nat} {s : FrSt} {xs ys : List Int} {c : Array Value} {tu : TypeId} {S : Nat → Prop} (h : Beside w F lb p q U s xs c tu) (ho : Only S w w') (hm : Holds 130 w' (.pointer s.mp) p q ys) (a1 : ¬ S F) (a2 : ¬ S lb) (a5 : ¬ S U) : Beside w' F lb p q U s ys c tu :=
  ⟨⟨h.fm.frame.only ho a1 a2, hm, Nat.lt_of_lt_of_le h.fm.lp ho.size, Nat.lt_of_lt_of_le h.fm.lq ho.size, Nat.lt_of_lt_of_le h.fm.ll ho.size, h.fm.n1, h.fm.n2, h.fm.n3, h.fm.n4⟩, (ho.block U (lt_of_block h.blk) a5).trans h.blk, h.n1, h.n2, h.n3, h.n4⟩

/-- A frame behind a step. -/
def over (s : FrSt) : FrSt := { s with underway := false, done := !s.off }
/-- The value of a body that is a method of a block. -/
abbrev methV (fn U : Nat) : Value := .func (.func fn) #[.pointer (some ⟨U, 0, none⟩)] #[]

theorem tree_step {α : Type} {m : Nat} (T : Tree α m) (fn : Nat) (hent : ∀ (args : Array Value) (w : World), (callFunc fn args).run Tryz.prog w = .ok (.enter fn args) w) (cellsOf : α → Array Value) (tu : TypeId) (w : World) (F lb p q U : Nat) (s : FrSt) (xs : List Int) (c : Array Value) (now : Int)
    (h : Beside w F lb p q U s xs c tu) (hd : s.done = false) (hu : s.underway = false) (hl : s.log.length ≤ 1000000)
    (hbody : ∀ w1, Beside w1 F lb p q U (s.begun now) xs c tu → Calls Tryz.prog fn #[.pointer (some ⟨U, 0, none⟩), .pointer (some ⟨F, 0, none⟩)] w1 fun e w' => e = .returned (.tuple #[]) ∧ Stays w1 F lb p q U (T.run (s.begun now) xs).2.1 (T.run (s.begun now) xs).2.2 (cellsOf (T.run (s.begun now) xs).1) tu w') :
    Calls Tryz.prog 40 #[.pointer (some ⟨F, 0, none⟩), .int .i64 now, methV fn U] w fun e w' => e = .returned (.bool (!(T.run (s.begun now) xs).2.1.off)) ∧ Stays w F lb p q U (over (T.run (s.begun now) xs).2.1) (T.run (s.begun now) xs).2.2 (cellsOf (T.run (s.begun now) xs).1) tu w' := by
  refine (step_rel w F lb s now h.fm.frame hd hu hl fn #[.pointer (some ⟨U, 0, none⟩)] #[]
    (fun w1 lb' s' => s' = (T.run (s.begun now) xs).2.1 ∧ Beside w1 F lb' p q U s' (T.run (s.begun now) xs).2.2 (cellsOf (T.run (s.begun now) xs).1) tu ∧ (lb' = lb ∨ w.heap.size ≤ lb') ∧ Only (fun k => k = F ∨ k = lb ∨ k = q ∨ k = U) w w1)
    hent ?_).mono ?_
  · intro w1 hf1 ho1
    have hB1 : Beside w1 F lb p q U (s.begun now) xs c tu := h.frame rfl hf1 ho1
    have hO2 : Only (fun _ => False) w1 (w1.alloc (.cells #[.pointer (some ⟨F, 0, none⟩)] 78)) := (Only.refl _ _).alloc _
    have hB2 := hB1.only hO2 (fun h => h) (fun h => h) (fun h => h) (fun h => h) (fun h => h)
    have e1 : (#[Value.pointer (some ⟨U, 0, none⟩)] : Array Value).push (.pointer (some ⟨F, 0, none⟩)) ++ #[] = #[.pointer (some ⟨U, 0, none⟩), .pointer (some ⟨F, 0, none⟩)] := by simp
    rw [e1]
    refine (hbody _ hB2).mono ?_
    rintro e w3 ⟨rfl, lb', hB3, hl3, ho3⟩
    have z1 := ho1.size
    have z2 := hO2.size
    have y1 := hB1.fm.frame.lt
    have y2 := hB1.fm.ll
    have y3 := hB1.fm.lq
    have y4 := lt_of_block hB1.blk
    refine ⟨rfl, lb', _, ⟨rfl, hB3, ?_, ?_⟩, hB3.fm.frame, ?_⟩
    · rcases hl3 with h9 | h9
      · exact .inl h9
      · exact .inr (by omega)
    · exact ((ho1.mono (T := fun k => k = F ∨ k = lb ∨ k = q ∨ k = U) (fun _ _ e => .inl e)).chain hO2 (fun _ _ e => e.elim)).chain ho3 (fun _ _ e => e)
    · rw [ho3.block w1.heap.size (by simp) (by rintro (e | e | e | e) <;> omega)]
      exact heap_new _ _
  · rintro e w3 ⟨w2, lb', s', ⟨rfl, hB2, hlb, hO2⟩, rfl, hf3, ho3⟩
    exact ⟨rfl, lb', hB2.frame rfl hf3 ho3, hlb, hO2.chain ho3 (fun _ _ e => .inl e)⟩

/-- A function whose call, with a block and a frame, does the accesses of a tree, and leaves its answer in the block. -/
structure BodyOf {α : Type} {m : Nat} (T : Tree α m) (fn : Nat) (cellsOf : α → Array Value) (tu : TypeId) (n : Nat) : Prop where
  enters : ∀ (args : Array Value) (w : World), (callFunc fn args).run Tryz.prog w = .ok (.enter fn args) w
  small : n ≤ 100000
  does : ∀ (w : World) (F lb p q U : Nat) (s : FrSt) (xs : List Int) (r : α), Beside w F lb p q U s xs (cellsOf r) tu → Fit 200000 s → s.asked ≤ s.most → s.most + 2 ≤ n →
    Calls Tryz.prog fn #[.pointer (some ⟨U, 0, none⟩), .pointer (some ⟨F, 0, none⟩)] w fun e w' => e = .returned (.tuple #[]) ∧ Stays w F lb p q U (T.run s xs).2.1 (T.run s xs).2.2 (cellsOf (T.run s xs).1) tu w'

section
variable {α : Type} {m : Nat} {T : Tree α m} {fn : Nat} {cellsOf : α → Array Value} {tu : TypeId} {n : Nat}
theorem BodyOf.step0 (hB : BodyOf T fn cellsOf tu n) (w : World) (F lb p q U : Nat) (s : FrSt) (xs : List Int) (r : α) (now : Int) (h : Beside w F lb p q U s xs (cellsOf r) tu) (hd : s.done = false) (hu : s.underway = false) (hl : s.log.length + 3 ≤ n) :
    Calls Tryz.prog 40 #[.pointer (some ⟨F, 0, none⟩), .int .i64 now, methV fn U] w fun e w' => e = .returned (.bool (!(T.run (s.begun now) xs).2.1.off)) ∧ Stays w F lb p q U (over (T.run (s.begun now) xs).2.1) (T.run (s.begun now) xs).2.2 (cellsOf (T.run (s.begun now) xs).1) tu w' := by
  have hn := hB.small
  exact tree_step T fn hB.enters cellsOf tu w F lb p q U s xs _ now h hd hu (by omega) fun w1 hb => hB.does w1 F lb p q U (s.begun now) xs r hb ⟨by show 0 + 200000 ≤ 1048576; omega, by show s.log.length + 200000 ≤ 1000000; omega, Nat.zero_le _⟩ (Nat.zero_le _) (by show s.log.length + 1 + 2 ≤ n; omega)

/-- A step that does an access. -/
theorem BodyOf.step (hB : BodyOf T fn cellsOf tu n) (w : World) (F lb p q U : Nat) (s : FrSt) (xs : List Int) (r : α) (now : Int) (h : Beside w F lb p q U s xs (cellsOf r) tu) (hd : s.done = false) (hu : s.underway = false) (hl : s.log.length + 3 ≤ n)
    {A : AccS α} (ht : T.after s.answers = some (Sum.inr A)) :
    Calls Tryz.prog 40 #[.pointer (some ⟨F, 0, none⟩), .int .i64 now, methV fn U] w fun e w' => ∃ s', e = .returned (.bool (!(A.f (ansA A.k A.a A.u xs)).more)) ∧
      Stays w F lb p q U s' (aftA A.k A.a A.v A.u xs) (cellsOf (A.f (ansA A.k A.a A.u xs)).val) tu w' ∧ s'.log = s.log ++ [(ansA A.k A.a A.u xs, now)] ∧ s'.mp = s.mp ∧ s'.underway = false ∧ s'.done = !(A.f (ansA A.k A.a A.u xs)).more := by
  obtain ⟨s', h1, h2, h3, h4, _⟩ := Tree.step T s now xs ht
  refine (hB.step0 w F lb p q U s xs r now h hd hu hl).mono ?_
  rintro e w' ⟨rfl, hS⟩
  rw [h1] at hS ⊢
  exact ⟨over s', by rw [h2], hS, h3, h4, rfl, by rw [over, h2]⟩
end

theorem holds_mem {w : World} {p q : Nat} {xs : List Int} (h : Holds 130 w (.pointer (some ⟨p, 0, none⟩)) p q xs) (hp : 0 < xs.length) : MemIs 130 w p q xs := by
  rcases h with ⟨_, h⟩ | ⟨h, _⟩ | ⟨h, _⟩
  · exact h
  · subst h; simp at hp
  · subst h; simp at hp

section
variable {α : Type} {m : Nat} {T : Tree α m} {fn : Nat} {cellsOf : α → Array Value} {tu : TypeId} {n : Nat}

set_option maxRecDepth 100000 in
set_option maxHeartbeats 1000000 in
theorem BodyOf.run_all (hB : BodyOf T fn cellsOf tu n) (w : World) (p q U : Nat) (xs : List Int) (r : α) (most : Int) (hm : Holds 130 w (.pointer (some ⟨p, 0, none⟩)) p q xs) (lp : p < w.heap.size) (lq : q < w.heap.size) (hU : w.heap[U]? = some (.cells (cellsOf r) tu)) (n1 : U ≠ p) (n2 : U ≠ q)
    (hmost : ((T.alone xs).2.2 : Int) ≤ most) (hpos : 0 < most) (hmm : most ≤ 9223372036854775807) (hn : (T.alone xs).2.2 + 4 ≤ n) :
    Calls Tryz.prog 12 #[.pointer (some ⟨p, 0, none⟩), methV fn U, .int .i64 most] w fun e w' => e = .returned (.bool true) ∧ Holds 130 w' (.pointer (some ⟨p, 0, none⟩)) p q (T.alone xs).2.1 ∧ w'.heap[U]? = some (.cells (cellsOf (T.alone xs).1) tu) ∧ Only (fun k => k = q ∨ k = U) w w' := by
  have lU : U < w.heap.size := lt_of_block hU
  have HN0 := hid hn
  have HM := hid hm
  have HU := hid hU
  have HMO := hid hmost
  have hsm := hB.small
  obtain ⟨R, hR⟩ : ∃ R, T.alone xs = R := ⟨_, rfl⟩
  rw [hR] at HMO HN0
  rw [hR]
  have HR := hid hR
  clear hm hU hmost hR hn
  go_enter Tryz.func12, Tryz.ntmps12
  go_wp2_with fail
  refine (fnew_rel _ _).mono ?_
  rintro e w1 ⟨F, rfl, hf1, hF, ho1⟩
  have z1 := ho1.size
  have HB1 : Hid (Beside w1 F F p q U (fresh (some ⟨p, 0, none⟩)) xs (cellsOf r) tu) :=
    ⟨⟨hf1, HM.out.only ho1 (fun h => h) (fun h => h), by omega, by omega, hf1.lt, by omega, by omega, by omega, by omega⟩, (ho1.block U lU (fun h => h)).trans HU.out, by omega, by omega, n1, n2⟩
  have HO1 := hid (ho1.mono (T := fun k => k = q ∨ k = U) (fun _ _ h => h.elim))
  have lF : w.heap.size ≤ F := by omega
  clear hf1 ho1 HM HU hF
  go_wp2_with fail
  go_loopw [12] (fun i wx => ∃ j : Nat, i = .int .i64 (j : Int) ∧ (∃ lb s ys r' t, Beside wx F lb p q U s ys (cellsOf r') tu ∧ T.after s.answers = some t ∧ Tree.halone t ys = (R.1, R.2.1, R.2.2 - j) ∧ ((∃ x, t = Sum.inl x ∧ j = 0) ∨ ∃ A, t = Sum.inr A) ∧ j ≤ R.2.2 ∧ s.log.length = j ∧ s.mp = some ⟨p, 0, none⟩ ∧ s.underway = false ∧ s.done = false ∧ w.heap.size ≤ lb) ∧ Only (fun k => k = q ∨ k = U) w wx) (fun i _ => R.2.2 + 1 - (intOf i).toNat)
  case atStart =>
    obtain ⟨t', ht1, ht2, _⟩ := Tree.after_nil T
    refine ⟨0, rfl, ⟨F, _, xs, r, t', HB1.out, ht1, by rw [ht2, HR.out]; rfl, ?_, Nat.zero_le _, rfl, rfl, rfl, rfl, lF⟩, HO1.out⟩
    rcases t' with x | A
    · exact .inl ⟨x, rfl, rfl⟩
    · exact .inr ⟨A, rfl⟩
  case round =>
    obtain ⟨j, rfl, ⟨lb, s, ys, r', t, hb, ht, hal, hty, hjn, hlen, t1, t2, t3, t4⟩, hOx⟩ := hrel
    have hjm : (j : Int) < most := by
      have h1 := HMO.out
      rcases hty with ⟨x, hx, rfl⟩ | ⟨A, rfl⟩
      · omega
      · have h2 : R.2.2 - j ≠ 0 := by
          have h3 := congrArg (fun z => z.2.2) hal
          simp only [Tree.halone] at h3
          omega
        omega
    have HBx := hid hb
    have HT := hid (And.intro ht (And.intro hal (And.intro t1 (And.intro t2 t3))))
    have HLL := hid hlen
    have HLB := hid t4
    have HOnly : Hid (∀ w9, Only (fun k => k = F ∨ k = lb ∨ k = q ∨ k = U) wr w9 → Only (fun k => k = q ∨ k = U) w w9) := by
      intro w9 h9
      refine hOx.chain h9 (fun i hi e => ?_)
      rcases e with e | e | e | e
      · omega
      · omega
      · exact .inl e
      · exact .inr e
    have HZ := hid hOx.size
    have HL3 : Hid (s.log.length + 3 ≤ n) := by have := HN0.out; show _ ≤ _; omega
    clear hb ht hal t1 t2 t3 t4 hOx HB1 HO1 hlen
    rcases hty with ⟨x, hx, hj0⟩ | ⟨A, hx⟩
    · have HX := hid (And.intro hx hj0)
      clear hx hj0
      go_wp2_with fail
      refine (hB.step0 _ F lb p q U s ys r' _ HBx.out HT.out.2.2.2.2 HT.out.2.2.2.1 HL3.out).mono ?_
      rintro e w9 ⟨rfl, hS⟩
      obtain ⟨s', h1, h2, h3, h4, _⟩ := Tree.step_end T s (j : Int) ys (HX.out.1 ▸ HT.out.1)
      rw [h1] at hS
      rw [h1]
      simp only [h2, Bool.not_false]
      have hal := HT.out.2.1
      rw [HX.out.1] at hal
      simp only [Tree.halone] at hal
      obtain ⟨lb9, hb9, hl9, ho9⟩ := hS
      have HE : Hid (Holds 130 w9 (.pointer (some ⟨p, 0, none⟩)) p q R.2.1 ∧ w9.heap[U]? = some (.cells (cellsOf R.1) tu) ∧ Only (fun k => k = q ∨ k = U) w w9) := by
        have e1 : x = R.1 := congrArg (fun z => z.1) hal
        have e2 : ys = R.2.1 := congrArg (fun z => z.2.1) hal
        rw [← e1, ← e2]
        have h9 := hb9.fm.mem
        rw [show (over s').mp = some ⟨p, 0, none⟩ from h4.trans HT.out.2.2.1] at h9
        exact ⟨h9, hb9.blk, HOnly.out _ ho9⟩
      clear hb9 hl9 ho9 hal h1 h2 h3 h4
      go_wp2_with fail
      go_ret
      exact ⟨rfl, HE.out⟩
    · have HX := hid hx
      clear hx
      go_wp2_with fail
      refine (hB.step _ F lb p q U s ys r' _ HBx.out HT.out.2.2.2.2 HT.out.2.2.2.1 HL3.out (HX.out ▸ HT.out.1)).mono ?_
      rintro e w9 ⟨s', rfl, ⟨lb9, hb9, hl9, ho9⟩, g1, g2, g3, g4⟩
      have hal := HT.out.2.1
      rw [HX.out] at hal
      simp only [Tree.halone] at hal
      obtain ⟨t', ht1, ht2, ht4, ht5⟩ := Tree.after_nil (A.f (ansA A.k A.a A.u ys))
      have hlog : s'.log.length = j + 1 := by rw [g1, List.length_append, HLL.out]; rfl
      have haft : T.after s'.answers = some t' := by
        rw [answers_snoc g1, Tree.after_snoc T _ (HX.out ▸ HT.out.1), ht1]
      have e1 : Tree.halone t' (aftA A.k A.a A.v A.u ys) = (R.1, R.2.1, R.2.2 - (j + 1)) := by
        rw [ht2]
        have e3 := congrArg (fun z => z.1) hal
        have e4 := congrArg (fun z => z.2.1) hal
        have e5 := congrArg (fun z => z.2.2) hal
        simp only at e3 e4 e5
        rw [← e3, ← e4]
        refine Prod.ext rfl (Prod.ext rfl ?_)
        show _ = R.2.2 - (j + 1)
        omega
      have hjn' : j + 1 ≤ R.2.2 := by
        have e5 := congrArg (fun z => z.2.2) hal
        simp only at e5
        omega
      have HO9 := hid (HOnly.out _ ho9)
      have HL9 : Hid (w.heap.size ≤ lb9) := by have := HZ.out; have := HLB.out; show _ ≤ _; omega
      have HG := hid (And.intro (g2.trans HT.out.2.2.1) g3)
      rw [← ht5] at g4
      rw [← ht4] at hb9
      rw [← ht5]
      have HF9 := hid hb9.fm.frame
      have HB9 := hid hb9
      have HLOG := hid hlog
      have HAFT := hid haft
      have HE1 := hid e1
      have HJN := hid hjn'
      rcases t' with x | A'
      · simp only [Tree.hmore, Bool.not_false]
        have HE : Hid (Holds 130 w9 (.pointer (some ⟨p, 0, none⟩)) p q R.2.1 ∧ w9.heap[U]? = some (.cells (cellsOf R.1) tu) ∧ Only (fun k => k = q ∨ k = U) w w9) := by
          simp only [Tree.halone] at e1
          have e2 : x = R.1 := congrArg (fun z => z.1) e1
          have e3 : aftA A.k A.a A.v A.u ys = R.2.1 := congrArg (fun z => z.2.1) e1
          rw [← e2, ← e3]
          have h9 := hb9.fm.mem
          rw [HG.out.1] at h9
          exact ⟨h9, hb9.blk, HO9.out⟩
        clear hal ht1 ht2 ht4 ht5 hlog haft e1 hjn' g1 g2 g3 g4 hl9 ho9 hb9
        go_wp2_with fail
        go_ret
        exact ⟨rfl, HE.out⟩
      · simp only [Tree.hmore, Bool.not_true] at g4 ⊢
        have HG4 := hid g4
        have hne : ((j : Int) + 1 == (j : Int)) = false := beq_eq_false_iff_ne.2 (by omega)
        have hj60 : (j : Int) ≤ 200000 := by have := HN0.out; have := HJN.out; omega
        clear hal ht1 ht2 ht4 ht5 hlog haft e1 hjn' g1 g2 g3 g4 hl9 ho9 hb9
        go_wp2_with fail
        refine (steps_rel _ _ _ _ HF9.out).mono ?_
        rintro e w10 ⟨rfl, rfl⟩
        rw [HLOG.out]
        push_cast
        go_wp2_with fail
        go_roundw
        case rel => exact ⟨j + 1, by go_num, ⟨lb9, s', _, _, _, HB9.out, HAFT.out, HE1.out, .inr ⟨_, rfl⟩, HJN.out, HLOG.out, HG.out.1, HG.out.2, HG4.out, HL9.out⟩, HO9.out⟩
        case measure => have := HJN.out; simp [intOf]; omega
end
end Go.Proofs.YtmcmjcaigipoaaaGreat

/-
  A frame with a body that is a tree of accesses, kept beside blocks of its own, of any shape: its steps, and frame.Run of it. Conditions: all of it lies in blocks that are not the same; the body's own contract.
-/
namespace Go.Sept
open Go.RowKit

/-- What lies beside a frame: V the blocks that it speaks of, W those that a body may turn; Pre what is asked of it, ahead of each step and behind it; Post what an answer of the body has left there, in blocks of V and in ones from b on. -/
structure Kept (α : Type) where
  V : Nat → Prop
  W : Nat → Prop
  Pre : World → Prop
  Post : Nat → α → World → Prop
  sub : ∀ k, W k → V k
  low : ∀ w k, Pre w → V k → k < w.heap.size
  keep : ∀ (S : Nat → Prop) (w w' : World), Pre w → Only S w w' → (∀ k, V k → ¬ S k) → Pre w'
  held : ∀ (S : Nat → Prop) (b : Nat) (x : α) (w w' : World), Post b x w → Only S w w' → (∀ k, V k → ¬ S k) → (∀ k, b ≤ k → ¬ S k) → Post b x w'
  less : ∀ (b b' : Nat) (x : α) (w : World), Post b x w → b' ≤ b → Post b' x w
end Go.Sept

namespace Go.Proofs.YtmcmjcaigipoaaaGreat
open Go.RowKit Go.Sept

section
variable {α : Type} (K : Kept α)
/-- A frame, its memory, and what lies beside them. -/
structure Near (w : World) (F lb p q : Nat) (s : FrSt) (xs : List Int) : Prop where
  fm : FMIs w F lb p q s xs
  pre : K.Pre w
  apart : ∀ k, K.V k → k ≠ F ∧ k ≠ lb ∧ k ≠ p ∧ k ≠ q
/-- What a body leaves. -/
def Went (w : World) (F lb p q : Nat) (s : FrSt) (xs : List Int) (x : α) (w' : World) : Prop :=
  ∃ lb', Near K w' F lb' p q s xs ∧ (lb' = lb ∨ w.heap.size ≤ lb') ∧ Only (fun k => k = F ∨ k = lb ∨ k = q ∨ K.W k) w w' ∧ K.Post w.heap.size x w'
end

section
variable {α : Type} {K : Kept α}
theorem Near.frame {w w' : World} {F lb p q : Nat} {s s' : FrSt} {xs : List Int} (h : Near K w F lb p q s xs) (hm : s'.mp = s.mp) (hf : FrameIs w' F lb s') (ho : Only (· = F) w w') : Near K w' F lb p q s' xs :=
  ⟨h.fm.replay hm hf ho, K.keep _ _ _ h.pre ho (fun k hk e => (h.apart k hk).1 e), h.apart⟩
theorem Near.only {w w' : World} {F lb p q : Nat} {s : FrSt} {xs : List Int} {S : Nat → Prop} (h : Near K w F lb p q s xs) (ho : Only S w w') (a1 : ¬ S F) (a2 : ¬ S lb) (a3 : ¬ S p) (a4 : ¬ S q) (a5 : ∀ k, K.V k → ¬ S k) : Near K w' F lb p q s xs :=
  ⟨h.fm.only ho a1 a2 a3 a4, K.keep _ _ _ h.pre ho a5, h.apart⟩
/-- Where only the memory's row has turned. -/
theorem Near.mem {w w' : World} {F lb p q : Nat} {s : FrSt} {xs ys : List Int} {S : Nat → Prop} (h : Near K w F lb p q s xs) (ho : Only S w w') (hm : Holds 130 w' (.pointer s.mp) p q ys) (a1 : ¬ S F) (a2 : ¬ S lb) (a5 : ∀ k, K.V k → ¬ S k) : Near K w' F lb p q s ys :=
  ⟨⟨h.fm.frame.only ho a1 a2, hm, Nat.lt_of_lt_of_le h.fm.lp ho.size, Nat.lt_of_lt_of_le h.fm.lq ho.size, Nat.lt_of_lt_of_le h.fm.ll ho.size, h.fm.n1, h.fm.n2, h.fm.n3, h.fm.n4⟩, K.keep _ _ _ h.pre ho a5, h.apart⟩

/-- A function whose call, with a receiver and a frame, does the accesses of a tree, and leaves its answer beside the frame. -/
structure BodyIn {m : Nat} (T : Tree α m) (fn : Nat) (rcv : Value) (K : Kept α) (n : Nat) : Prop where
  enters : ∀ (args : Array Value) (w : World), (callFunc fn args).run Tryz.prog w = .ok (.enter fn args) w
  small : n ≤ 100000
  does : ∀ (w : World) (F lb p q : Nat) (s : FrSt) (xs : List Int), Near K w F lb p q s xs → Fit 200000 s → s.asked ≤ s.most → s.most + 2 ≤ n →
    Calls Tryz.prog fn #[rcv, .pointer (some ⟨F, 0, none⟩)] w fun e w' => e = .returned (.tuple #[]) ∧ Went K w F lb p q (T.run s xs).2.1 (T.run s xs).2.2 (T.run s xs).1 w'

abbrev bodyV (fn : Nat) (rcv : Value) : Value := .func (.func fn) #[rcv] #[]

variable {m : Nat} {T : Tree α m} {fn : Nat} {rcv : Value} {n : Nat}
theorem BodyIn.step0 (hB : BodyIn T fn rcv K n) (w : World) (F lb p q : Nat) (s : FrSt) (xs : List Int) (now : Int) (h : Near K w F lb p q s xs) (hd : s.done = false) (hu : s.underway = false) (hl : s.log.length + 3 ≤ n) :
    Calls Tryz.prog 40 #[.pointer (some ⟨F, 0, none⟩), .int .i64 now, bodyV fn rcv] w fun e w' => e = .returned (.bool (!(T.run (s.begun now) xs).2.1.off)) ∧ Went K w F lb p q (over (T.run (s.begun now) xs).2.1) (T.run (s.begun now) xs).2.2 (T.run (s.begun now) xs).1 w' := by
  have hn := hB.small
  refine (step_rel w F lb s now h.fm.frame hd hu (by omega) fn #[rcv] #[]
    (fun w1 lb' s' => s' = (T.run (s.begun now) xs).2.1 ∧ Near K w1 F lb' p q s' (T.run (s.begun now) xs).2.2 ∧ (lb' = lb ∨ w.heap.size ≤ lb') ∧ Only (fun k => k = F ∨ k = lb ∨ k = q ∨ K.W k) w w1 ∧ K.Post w.heap.size (T.run (s.begun now) xs).1 w1)
    hB.enters ?_).mono ?_
  · intro w1 hf1 ho1
    have hB1 : Near K w1 F lb p q (s.begun now) xs := h.frame rfl hf1 ho1
    have hO2 : Only (fun _ => False) w1 (w1.alloc (.cells #[.pointer (some ⟨F, 0, none⟩)] 78)) := (Only.refl _ _).alloc _
    have hB2 := hB1.only hO2 (fun h => h) (fun h => h) (fun h => h) (fun h => h) (fun _ _ h => h)
    have e1 : (#[rcv] : Array Value).push (.pointer (some ⟨F, 0, none⟩)) ++ #[] = #[rcv, .pointer (some ⟨F, 0, none⟩)] := by simp
    rw [e1]
    refine (hB.does _ F lb p q (s.begun now) xs hB2 ⟨by show 0 + 200000 ≤ 1048576; omega, by show s.log.length + 200000 ≤ 1000000; omega, Nat.zero_le _⟩ (Nat.zero_le _) (by show s.log.length + 1 + 2 ≤ n; omega)).mono ?_
    rintro e w3 ⟨rfl, lb', hB3, hl3, ho3, hp3⟩
    have z1 := ho1.size
    have z2 := hO2.size
    have y1 := hB1.fm.frame.lt
    have y2 := hB1.fm.ll
    have y3 := hB1.fm.lq
    refine ⟨rfl, lb', _, ⟨rfl, hB3, ?_, ?_, ?_⟩, hB3.fm.frame, ?_⟩
    · rcases hl3 with h9 | h9
      · exact .inl h9
      · exact .inr (by omega)
    · exact ((ho1.mono (T := fun k => k = F ∨ k = lb ∨ k = q ∨ K.W k) (fun _ _ e => .inl e)).chain hO2 (fun _ _ e => e.elim)).chain ho3 (fun _ _ e => e)
    · exact K.less _ _ _ _ hp3 (by omega)
    · rw [ho3.block w1.heap.size (by simp) (by
        rintro (e | e | e | e)
        · omega
        · omega
        · omega
        · have := K.low _ _ hB1.pre (K.sub _ e)
          omega)]
      exact heap_new _ _
  · rintro e w3 ⟨w2, lb', s', ⟨rfl, hB2, hlb, hO2, hP2⟩, rfl, hf3, ho3⟩
    refine ⟨rfl, lb', hB2.frame rfl hf3 ho3, hlb, hO2.chain ho3 (fun _ _ e => .inl e), ?_⟩
    refine K.held _ _ _ _ _ hP2 ho3 (fun k hk e => (h.apart k hk).1 e) (fun k hk e => ?_)
    have := h.fm.frame.lt
    have e' : k = F := e
    omega

/-- A step that does an access; T' is where the body stands behind it. -/
theorem BodyIn.step (hB : BodyIn T fn rcv K n) (w : World) (F lb p q : Nat) (s : FrSt) (xs : List Int) (now : Int) (h : Near K w F lb p q s xs) (hd : s.done = false) (hu : s.underway = false) (hl : s.log.length + 3 ≤ n)
    {A : AccS α} (ht : T.after s.answers = some (Sum.inr A)) :
    Calls Tryz.prog 40 #[.pointer (some ⟨F, 0, none⟩), .int .i64 now, bodyV fn rcv] w fun e w' => ∃ s' T', e = .returned (.bool (!(Tree.hmore T'))) ∧
      Went K w F lb p q s' (aftA A.k A.a A.v A.u xs) (Tree.hval T') w' ∧ s'.log = s.log ++ [(ansA A.k A.a A.u xs, now)] ∧ s'.mp = s.mp ∧ s'.underway = false ∧ s'.done = !(Tree.hmore T') ∧ T.after s'.answers = some T' ∧ (A.f (ansA A.k A.a A.u xs)).after [] = some T' := by
  obtain ⟨s', h1, h2, h3, h4, _⟩ := Tree.step T s now xs ht
  refine (hB.step0 w F lb p q s xs now h hd hu hl).mono ?_
  rintro e w' ⟨rfl, hS⟩
  rw [h1] at hS ⊢
  obtain ⟨T', ht1, _, ht4, ht5⟩ := Tree.after_nil (A.f (ansA A.k A.a A.u xs))
  refine ⟨over s', T', by rw [h2, ht5], by rw [ht4]; exact hS, h3, h4, rfl, by rw [over, h2, ht5], ?_, ht1⟩
  rw [answers_snoc (s' := over s') h3, Tree.after_snoc T _ ht, ht1]

/-- A step of a body without an access more. -/
theorem BodyIn.step_end (hB : BodyIn T fn rcv K n) (w : World) (F lb p q : Nat) (s : FrSt) (xs : List Int) (now : Int) (h : Near K w F lb p q s xs) (hd : s.done = false) (hu : s.underway = false) (hl : s.log.length + 3 ≤ n)
    {x : α} (ht : T.after s.answers = some (Sum.inl x)) :
    Calls Tryz.prog 40 #[.pointer (some ⟨F, 0, none⟩), .int .i64 now, bodyV fn rcv] w fun e w' => ∃ s', e = .returned (.bool true) ∧
      Went K w F lb p q s' xs x w' ∧ s'.log = s.log ∧ s'.mp = s.mp ∧ s'.underway = false ∧ s'.done = true := by
  obtain ⟨s', h1, h2, h3, h4, _⟩ := Tree.step_end T s now xs ht
  refine (hB.step0 w F lb p q s xs now h hd hu hl).mono ?_
  rintro e w' ⟨rfl, hS⟩
  rw [h1] at hS ⊢
  exact ⟨over s', by rw [h2]; rfl, hS, h3, h4, rfl, by rw [over, h2]; rfl⟩

set_option maxRecDepth 100000 in
set_option maxHeartbeats 1000000 in
theorem BodyIn.run_all (hB : BodyIn T fn rcv K n) (w : World) (p q : Nat) (xs : List Int) (most : Int) (hm : Holds 130 w (.pointer (some ⟨p, 0, none⟩)) p q xs) (lp : p < w.heap.size) (lq : q < w.heap.size) (hK : K.Pre w) (hV : ∀ k, K.V k → k ≠ p ∧ k ≠ q)
    (hmost : ((T.alone xs).2.2 : Int) ≤ most) (hpos : 0 < most) (hmm : most ≤ 9223372036854775807) (hn : (T.alone xs).2.2 + 4 ≤ n) :
    Calls Tryz.prog 12 #[.pointer (some ⟨p, 0, none⟩), bodyV fn rcv, .int .i64 most] w fun e w' => e = .returned (.bool true) ∧ Holds 130 w' (.pointer (some ⟨p, 0, none⟩)) p q (T.alone xs).2.1 ∧ K.Pre w' ∧ K.Post w.heap.size (T.alone xs).1 w' ∧ Only (fun k => k = q ∨ K.W k) w w' := by
  have HN0 := hid hn
  have HM := hid hm
  have HK := hid hK
  have HV := hid hV
  have HMO := hid hmost
  have hsm := hB.small
  obtain ⟨R, hR⟩ : ∃ R, T.alone xs = R := ⟨_, rfl⟩
  rw [hR] at HMO HN0
  rw [hR]
  have HR := hid hR
  clear hm hK hV hmost hR hn
  go_enter Tryz.func12, Tryz.ntmps12
  go_wp2_with fail
  refine (fnew_rel _ _).mono ?_
  rintro e w1 ⟨F, rfl, hf1, hF, ho1⟩
  have z1 := ho1.size
  have HB1 : Hid (Near K w1 F F p q (fresh (some ⟨p, 0, none⟩)) xs) :=
    ⟨⟨hf1, HM.out.only ho1 (fun h => h) (fun h => h), by omega, by omega, hf1.lt, by omega, by omega, by omega, by omega⟩, K.keep _ _ _ HK.out ho1 (fun _ _ h => h), fun k hk => by
      have h1 := K.low _ _ HK.out hk
      have h2 := HV.out k hk
      exact ⟨by omega, by omega, h2.1, h2.2⟩⟩
  have HO1 := hid (ho1.mono (T := fun k => k = q ∨ K.W k) (fun _ _ h => h.elim))
  have lF : w.heap.size ≤ F := by omega
  clear hf1 ho1 HM HK hF
  go_wp2_with fail
  go_loopw [12] (fun i wx => ∃ j : Nat, i = .int .i64 (j : Int) ∧ (∃ lb s ys t, Near K wx F lb p q s ys ∧ T.after s.answers = some t ∧ Tree.halone t ys = (R.1, R.2.1, R.2.2 - j) ∧ ((∃ x, t = Sum.inl x ∧ j = 0) ∨ ∃ A, t = Sum.inr A) ∧ j ≤ R.2.2 ∧ s.log.length = j ∧ s.mp = some ⟨p, 0, none⟩ ∧ s.underway = false ∧ s.done = false ∧ w.heap.size ≤ lb) ∧ Only (fun k => k = q ∨ K.W k) w wx) (fun i _ => R.2.2 + 1 - (intOf i).toNat)
  case atStart =>
    obtain ⟨t', ht1, ht2, _⟩ := Tree.after_nil T
    refine ⟨0, rfl, ⟨F, _, xs, t', HB1.out, ht1, by rw [ht2, HR.out]; rfl, ?_, Nat.zero_le _, rfl, rfl, rfl, rfl, lF⟩, HO1.out⟩
    rcases t' with x | A
    · exact .inl ⟨x, rfl, rfl⟩
    · exact .inr ⟨A, rfl⟩
  case round =>
    obtain ⟨j, rfl, ⟨lb, s, ys, t, hb, ht, hal, hty, hjn, hlen, t1, t2, t3, t4⟩, hOx⟩ := hrel
    have hjm : (j : Int) < most := by
      have h1 := HMO.out
      rcases hty with ⟨x, hx, rfl⟩ | ⟨A, rfl⟩
      · omega
      · have h2 : R.2.2 - j ≠ 0 := by
          have h3 := congrArg (fun z => z.2.2) hal
          simp only [Tree.halone] at h3
          omega
        omega
    have HBx := hid hb
    have HT := hid (And.intro ht (And.intro hal (And.intro t1 (And.intro t2 t3))))
    have HLL := hid hlen
    have HLB := hid t4
    have HOnly : Hid (∀ w9, Only (fun k => k = F ∨ k = lb ∨ k = q ∨ K.W k) wr w9 → Only (fun k => k = q ∨ K.W k) w w9) := by
      intro w9 h9
      refine hOx.chain h9 (fun i hi e => ?_)
      rcases e with e | e | e | e
      · omega
      · omega
      · exact .inl e
      · exact .inr e
    have HZ := hid hOx.size
    have HL3 : Hid (s.log.length + 3 ≤ n) := by have := HN0.out; show _ ≤ _; omega
    clear hb ht hal t1 t2 t3 t4 hOx HB1 HO1 hlen
    rcases hty with ⟨x, hx, hj0⟩ | ⟨A, hx⟩
    · have HX := hid (And.intro hx hj0)
      clear hx hj0
      go_wp2_with fail
      refine (hB.step_end _ F lb p q s ys _ HBx.out HT.out.2.2.2.2 HT.out.2.2.2.1 HL3.out (HX.out.1 ▸ HT.out.1)).mono ?_
      rintro e w9 ⟨s', rfl, ⟨lb9, hb9, hl9, ho9, hp9⟩, h3, h4, _, _⟩
      have hal := HT.out.2.1
      rw [HX.out.1] at hal
      simp only [Tree.halone] at hal
      have HE : Hid (Holds 130 w9 (.pointer (some ⟨p, 0, none⟩)) p q R.2.1 ∧ K.Pre w9 ∧ K.Post w.heap.size R.1 w9 ∧ Only (fun k => k = q ∨ K.W k) w w9) := by
        have e1 : x = R.1 := congrArg (fun z => z.1) hal
        have e2 : ys = R.2.1 := congrArg (fun z => z.2.1) hal
        rw [← e1, ← e2]
        have h9 := hb9.fm.mem
        rw [h4.trans HT.out.2.2.1] at h9
        exact ⟨h9, hb9.pre, K.less _ _ _ _ hp9 HZ.out, HOnly.out _ ho9⟩
      clear hb9 hl9 ho9 hp9 hal h3 h4
      go_wp2_with fail
      go_ret
      exact ⟨rfl, HE.out⟩
    · have HX := hid hx
      clear hx
      go_wp2_with fail
      refine (hB.step _ F lb p q s ys _ HBx.out HT.out.2.2.2.2 HT.out.2.2.2.1 HL3.out (HX.out ▸ HT.out.1)).mono ?_
      rintro e w9 ⟨s', t', rfl, ⟨lb9, hb9, hl9, ho9, hp9⟩, g1, g2, g3, g4, haft, ht1⟩
      have hal := HT.out.2.1
      rw [HX.out] at hal
      simp only [Tree.halone] at hal
      obtain ⟨t2, ht1', ht2, _, _⟩ := Tree.after_nil (A.f (ansA A.k A.a A.u ys))
      obtain rfl : t2 = t' := Option.some.inj (ht1'.symm.trans ht1)
      have hlog : s'.log.length = j + 1 := by rw [g1, List.length_append, HLL.out]; rfl
      have e1 : Tree.halone t2 (aftA A.k A.a A.v A.u ys) = (R.1, R.2.1, R.2.2 - (j + 1)) := by
        rw [ht2]
        have e3 := congrArg (fun z => z.1) hal
        have e4 := congrArg (fun z => z.2.1) hal
        have e5 := congrArg (fun z => z.2.2) hal
        simp only at e3 e4 e5
        rw [← e3, ← e4]
        refine Prod.ext rfl (Prod.ext rfl ?_)
        show _ = R.2.2 - (j + 1)
        omega
      have hjn' : j + 1 ≤ R.2.2 := by
        have e5 := congrArg (fun z => z.2.2) hal
        simp only at e5
        omega
      have HO9 := hid (HOnly.out _ ho9)
      have HL9 : Hid (w.heap.size ≤ lb9) := by have := HZ.out; have := HLB.out; show _ ≤ _; omega
      have HG := hid (And.intro (g2.trans HT.out.2.2.1) g3)
      have HF9 := hid hb9.fm.frame
      have HB9 := hid hb9
      have HLOG := hid hlog
      have HAFT := hid haft
      have HE1 := hid e1
      have HJN := hid hjn'
      have HP9 := hid (K.less _ _ _ _ hp9 HZ.out)
      rcases t2 with x | A'
      · simp only [Tree.hmore, Bool.not_false]
        have HE : Hid (Holds 130 w9 (.pointer (some ⟨p, 0, none⟩)) p q R.2.1 ∧ K.Pre w9 ∧ K.Post w.heap.size R.1 w9 ∧ Only (fun k => k = q ∨ K.W k) w w9) := by
          simp only [Tree.halone] at e1
          have e2 : x = R.1 := congrArg (fun z => z.1) e1
          have e3 : aftA A.k A.a A.v A.u ys = R.2.1 := congrArg (fun z => z.2.1) e1
          rw [← e2, ← e3]
          have h9 := hb9.fm.mem
          rw [HG.out.1] at h9
          exact ⟨h9, hb9.pre, HP9.out, HO9.out⟩
        clear hal ht1 ht1' ht2 hlog haft e1 hjn' g1 g2 g3 g4 hl9 ho9 hb9 hp9 HP9
        go_wp2_with fail
        go_ret
        exact ⟨rfl, HE.out⟩
      · simp only [Tree.hmore, Bool.not_true] at g4 ⊢
        have HG4 := hid g4
        have hne : ((j : Int) + 1 == (j : Int)) = false := beq_eq_false_iff_ne.2 (by omega)
        have hj60 : (j : Int) ≤ 200000 := by have := HN0.out; have := HJN.out; omega
        clear hal ht1 ht1' ht2 hlog haft e1 hjn' g1 g2 g3 g4 hl9 ho9 hb9 hp9 HP9
        go_wp2_with fail
        refine (steps_rel _ _ _ _ HF9.out).mono ?_
        rintro e w10 ⟨rfl, rfl⟩
        rw [HLOG.out]
        push_cast
        go_wp2_with fail
        go_roundw
        case rel => exact ⟨j + 1, by go_num, ⟨lb9, s', _, _, HB9.out, HAFT.out, HE1.out, .inr ⟨_, rfl⟩, HJN.out, HLOG.out, HG.out.1, HG.out.2, HG4.out, HL9.out⟩, HO9.out⟩
        case measure => have := HJN.out; simp [intOf]; omega
end
end Go.Proofs.YtmcmjcaigipoaaaGreat
