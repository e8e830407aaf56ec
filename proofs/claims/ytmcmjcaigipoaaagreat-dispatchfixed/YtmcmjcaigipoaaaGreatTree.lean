/-
  Bodies as trees of accesses, and what a step of a frame does with one. Conditions: none; no program is named here.
-/
import Derived.Test.YtmcmjcaigipoaaaGreatFrameIs
namespace Go.Sept
open Go.RowKit

/-- A frame as another one but for what was asked, and for its mark. -/
def FrSt.spot (s : FrSt) (n : Nat) (m : Int) (b : Bool) : FrSt := { s with asked := n, mark := m, marked := b }
/-- The answers that a frame keeps. -/
def FrSt.answers (s : FrSt) : List Int := s.log.map Prod.fst
theorem answers_snoc {s s' : FrSt} {x now : Int} (h : s'.log = s.log ++ [(x, now)]) : s'.answers = s.answers ++ [x] := by simp [FrSt.answers, h]
theorem drop_getD (l : List (Int × Int)) (n : Nat) (h : n < l.length) : l.drop n = l.getD n (0, 0) :: l.drop (n + 1) := by
  rw [List.drop_eq_getElem_cons h]
  simp [h]

/-- A tree's node: an answer; an access, and what comes behind its answer; a question whether the frame is off; a mark. -/
abbrev Node (α β : Type) : Type := Sum α (Sum ((Int × Int × Int × Int) × (Int → β)) (Sum (Bool → β) β))
/-- Code that does accesses by a frame, of depth n. -/
def Tree (α : Type) : Nat → Type
  | 0 => α
  | n + 1 => Node α (Tree α n)
/-- An access, and what comes behind its answer. -/
structure AccS (α : Type) where
  m : Nat
  k : Int
  a : Int
  v : Int
  u : Int
  f : Int → Tree α m

namespace Tree
variable {α β : Type}

def ret : {n : Nat} → α → Tree α n
  | 0, x => x
  | _ + 1, x => Sum.inl x
def acc {n : Nat} (k a v u : Int) (f : Int → Tree α n) : Tree α (n + 1) := Sum.inr (Sum.inl ((k, a, v, u), f))
def off {n : Nat} (f : Bool → Tree α n) : Tree α (n + 1) := Sum.inr (Sum.inr (Sum.inl f))
def mark {n : Nat} (t : Tree α n) : Tree α (n + 1) := Sum.inr (Sum.inr (Sum.inr t))

theorem kinds {n : Nat} (t : Tree α (n + 1)) : (∃ x, t = ret x) ∨ (∃ k a v u f, t = acc k a v u f) ∨ (∃ f, t = off f) ∨ ∃ t', t = mark t' := by
  rcases (show Node α (Tree α n) from t) with x | ⟨⟨k, a, v, u⟩, f⟩ | f | t'
  · exact .inl ⟨x, rfl⟩
  · exact .inr (.inl ⟨k, a, v, u, f, rfl⟩)
  · exact .inr (.inr (.inl ⟨f, rfl⟩))
  · exact .inr (.inr (.inr ⟨t', rfl⟩))

def run : {n : Nat} → Tree α n → FrSt → List Int → α × FrSt × List Int
  | 0, x, s, xs => (x, s, xs)
  | _ + 1, Sum.inl x, s, xs => (x, s, xs)
  | _ + 1, Sum.inr (Sum.inl ((k, a, v, u), f)), s, xs => run (f (Sept.acc k a v u s xs).1) (Sept.acc k a v u s xs).2.1 (Sept.acc k a v u s xs).2.2
  | _ + 1, Sum.inr (Sum.inr (Sum.inl f)), s, xs => run (f (!s.underway || s.off)) s xs
  | _ + 1, Sum.inr (Sum.inr (Sum.inr t)), s, xs => run t s.toMark xs
theorem run_ret {n : Nat} (x : α) (s : FrSt) (xs : List Int) : (ret x : Tree α n).run s xs = (x, s, xs) := by cases n <;> rfl
theorem run_acc {n : Nat} (k a v u : Int) (f : Int → Tree α n) (s : FrSt) (xs : List Int) : (acc k a v u f).run s xs = (f (Sept.acc k a v u s xs).1).run (Sept.acc k a v u s xs).2.1 (Sept.acc k a v u s xs).2.2 := rfl
theorem run_off {n : Nat} (f : Bool → Tree α n) (s : FrSt) (xs : List Int) : (off f).run s xs = (f (!s.underway || s.off)).run s xs := rfl
theorem run_mark {n : Nat} (t : Tree α n) (s : FrSt) (xs : List Int) : (mark t).run s xs = t.run s.toMark xs := rfl

/-- What is left behind the answers: an answer, or the next access; none: there were not so many. -/
def after : {n : Nat} → Tree α n → List Int → Option (Sum α (AccS α))
  | 0, x, [] => some (Sum.inl x)
  | 0, _, _ :: _ => none
  | _ + 1, Sum.inl x, [] => some (Sum.inl x)
  | _ + 1, Sum.inl _, _ :: _ => none
  | n + 1, Sum.inr (Sum.inl ((k, a, v, u), f)), [] => some (Sum.inr ⟨n, k, a, v, u, f⟩)
  | _ + 1, Sum.inr (Sum.inl (_, f)), x :: r => after (f x) r
  | _ + 1, Sum.inr (Sum.inr (Sum.inl f)), l => after (f false) l
  | _ + 1, Sum.inr (Sum.inr (Sum.inr t)), l => after t l
/-- What is answered by who is off. -/
def dead : {n : Nat} → Tree α n → α
  | 0, x => x
  | _ + 1, Sum.inl x => x
  | _ + 1, Sum.inr (Sum.inl (_, f)) => dead (f 0)
  | _ + 1, Sum.inr (Sum.inr (Sum.inl f)) => dead (f true)
  | _ + 1, Sum.inr (Sum.inr (Sum.inr t)) => dead t
/-- How often who is off asks. -/
def deadN : {n : Nat} → Tree α n → Nat
  | 0, _ => 0
  | _ + 1, Sum.inl _ => 0
  | _ + 1, Sum.inr (Sum.inl (_, f)) => deadN (f 0) + 1
  | _ + 1, Sum.inr (Sum.inr (Sum.inl f)) => deadN (f true)
  | _ + 1, Sum.inr (Sum.inr (Sum.inr t)) => deadN t
/-- What is answered by who goes off with the next access. -/
def val : {n : Nat} → Tree α n → α
  | 0, x => x
  | _ + 1, Sum.inl x => x
  | _ + 1, Sum.inr (Sum.inl (_, f)) => dead (f 0)
  | _ + 1, Sum.inr (Sum.inr (Sum.inl f)) => val (f false)
  | _ + 1, Sum.inr (Sum.inr (Sum.inr t)) => val t
def cnt : {n : Nat} → Tree α n → Nat
  | 0, _ => 0
  | _ + 1, Sum.inl _ => 0
  | _ + 1, Sum.inr (Sum.inl (_, f)) => deadN (f 0) + 1
  | _ + 1, Sum.inr (Sum.inr (Sum.inl f)) => cnt (f false)
  | _ + 1, Sum.inr (Sum.inr (Sum.inr t)) => cnt t
/-- Whether there is a next access. -/
def more : {n : Nat} → Tree α n → Bool
  | 0, _ => false
  | _ + 1, Sum.inl _ => false
  | _ + 1, Sum.inr (Sum.inl _) => true
  | _ + 1, Sum.inr (Sum.inr (Sum.inl f)) => more (f false)
  | _ + 1, Sum.inr (Sum.inr (Sum.inr t)) => more t
/-- A tree that goes on alone: what it answers, what it leaves, how many accesses it does. -/
def alone : {n : Nat} → Tree α n → List Int → α × List Int × Nat
  | 0, x, xs => (x, xs, 0)
  | _ + 1, Sum.inl x, xs => (x, xs, 0)
  | _ + 1, Sum.inr (Sum.inl ((k, a, v, u), f)), xs => ((alone (f (ansA k a u xs)) (aftA k a v u xs)).1, (alone (f (ansA k a u xs)) (aftA k a v u xs)).2.1, (alone (f (ansA k a u xs)) (aftA k a v u xs)).2.2 + 1)
  | _ + 1, Sum.inr (Sum.inr (Sum.inl f)), xs => alone (f false) xs
  | _ + 1, Sum.inr (Sum.inr (Sum.inr t)), xs => alone t xs

/-- The same of where a tree stands. -/
def hval : Sum α (AccS α) → α
  | Sum.inl x => x
  | Sum.inr A => dead (A.f 0)
def hmore : Sum α (AccS α) → Bool
  | Sum.inl _ => false
  | Sum.inr _ => true
def halone : Sum α (AccS α) → List Int → α × List Int × Nat
  | Sum.inl x, xs => (x, xs, 0)
  | Sum.inr A, xs => ((alone (A.f (ansA A.k A.a A.u xs)) (aftA A.k A.a A.v A.u xs)).1, (alone (A.f (ansA A.k A.a A.u xs)) (aftA A.k A.a A.v A.u xs)).2.1, (alone (A.f (ansA A.k A.a A.u xs)) (aftA A.k A.a A.v A.u xs)).2.2 + 1)

theorem after_nil {n : Nat} (t : Tree α n) : ∃ h, t.after [] = some h ∧ (∀ xs, halone h xs = t.alone xs) ∧ hval h = t.val ∧ hmore h = t.more := by
  induction n with
  | zero => exact ⟨Sum.inl t, rfl, fun _ => rfl, rfl, rfl⟩
  | succ n ih =>
    rcases kinds t with ⟨x, rfl⟩ | ⟨k, a, v, u, f, rfl⟩ | ⟨f, rfl⟩ | ⟨t', rfl⟩
    · exact ⟨Sum.inl x, rfl, fun _ => rfl, rfl, rfl⟩
    · exact ⟨Sum.inr ⟨n, k, a, v, u, f⟩, rfl, fun _ => rfl, rfl, rfl⟩
    · exact ih (f false)
    · exact ih t'

theorem after_snoc {n : Nat} (t : Tree α n) (l : List Int) {A : AccS α} (h : t.after l = some (Sum.inr A)) (x : Int) : t.after (l ++ [x]) = (A.f x).after [] := by
  induction n generalizing l with
  | zero =>
    cases l with
    | nil => exact absurd (Option.some.inj h) (by intro e; cases e)
    | cons y r => exact absurd h (by intro e; cases e)
  | succ n ih =>
    rcases kinds t with ⟨y, rfl⟩ | ⟨k, a, v, u, f, rfl⟩ | ⟨f, rfl⟩ | ⟨t', rfl⟩
    · cases l with
      | nil => exact absurd (Option.some.inj h) (by intro e; cases e)
      | cons z r => exact absurd h (by intro e; cases e)
    · cases l with
      | nil =>
        have e := Sum.inr.inj (Option.some.inj h)
        subst e
        rfl
      | cons y r => exact ih (f y) r h
    · exact ih (f false) l h
    · exact ih t' l h

/-- Answers of steps ahead. -/
theorem run_replay {n : Nat} (t : Tree α n) (s : FrSt) (xs : List Int) (hu : s.underway = true) (ho : s.off = false) (ha : s.asked ≤ s.log.length) (hm : s.most = s.log.length + 1) {h : Sum α (AccS α)} (hf : t.after ((s.log.drop s.asked).map Prod.fst) = some h) :
    ∃ m b, t.run s xs = (match h with | Sum.inl x => (x, s.spot s.log.length m b, xs) | Sum.inr A => (acc A.k A.a A.v A.u A.f).run (s.spot s.log.length m b) xs) := by
  have atEnd : ∀ (s : FrSt), s.asked ≤ s.log.length → (s.log.drop s.asked).map Prod.fst = [] → s = s.spot s.log.length s.mark s.marked := by
    intro s ha h0
    simp at h0
    have h1 : s.asked = s.log.length := by omega
    rw [FrSt.spot, ← h1]
  induction n generalizing s with
  | zero =>
    cases hl : (s.log.drop s.asked).map Prod.fst with
    | nil =>
      rw [hl] at hf
      have e := Option.some.inj hf
      subst e
      exact ⟨s.mark, s.marked, by rw [← atEnd s ha hl]; rfl⟩
    | cons y r => rw [hl] at hf; exact absurd hf (by intro e; cases e)
  | succ n ih =>
    rcases kinds t with ⟨x, rfl⟩ | ⟨k, a, v, u, f, rfl⟩ | ⟨f, rfl⟩ | ⟨t', rfl⟩
    · cases hl : (s.log.drop s.asked).map Prod.fst with
      | nil =>
        rw [hl] at hf
        have e := Option.some.inj hf
        subst e
        exact ⟨s.mark, s.marked, by rw [← atEnd s ha hl]; rfl⟩
      | cons y r => rw [hl] at hf; exact absurd hf (by intro e; cases e)
    · by_cases hl : s.asked < s.log.length
      · rw [drop_getD _ _ hl] at hf
        have e : Sept.acc k a v u s xs = ((s.log.getD s.asked (0, 0)).1, { s with asked := s.asked + 1 }, xs) := by
          have h1 : s.isFresh = false := by
            simp [FrSt.isFresh, hu]
            intro _
            omega
          rw [Sept.acc, if_neg (by simp [h1]), FrSt.replay, if_neg (by simp [hu]), if_neg (by omega)]
        obtain ⟨m, b, hr⟩ := ih (f (s.log.getD s.asked (0, 0)).1) { s with asked := s.asked + 1 } hu ho (show s.asked + 1 ≤ s.log.length from hl) hm hf
        refine ⟨m, b, ?_⟩
        rw [run_acc, e]
        exact hr
      · have h1 : s.asked = s.log.length := by omega
        have hl0 : (s.log.drop s.asked).map Prod.fst = [] := by rw [h1, List.drop_length]; rfl
        rw [hl0] at hf
        have e := Option.some.inj hf
        subst e
        exact ⟨s.mark, s.marked, by rw [← atEnd s ha hl0]⟩
    · have e : (off f).run s xs = (f false).run s xs := by rw [run_off, hu, ho]; rfl
      rw [e]
      exact ih (f false) s hu ho ha hm hf
    · rw [run_mark]
      unfold FrSt.toMark
      split
      · exact ih t' { s with mark := (s.log.getD (s.asked - 1) (0, 0)).2, marked := true } hu ho ha hm hf
      · exact ih t' s hu ho ha hm hf

/-- Who is off. -/
theorem run_dead {n : Nat} (t : Tree α n) (s : FrSt) (xs : List Int) (hu : s.underway = true) (ho : s.off = true) (ha : s.asked = s.most) :
    ∃ m b, t.run s xs = (t.dead, { s with unheard := s.unheard + t.deadN, mark := m, marked := b }, xs) := by
  induction n generalizing s with
  | zero => exact ⟨s.mark, s.marked, rfl⟩
  | succ n ih =>
    rcases kinds t with ⟨x, rfl⟩ | ⟨k, a, v, u, f, rfl⟩ | ⟨f, rfl⟩ | ⟨t', rfl⟩
    · exact ⟨s.mark, s.marked, rfl⟩
    · have e : Sept.acc k a v u s xs = (0, { s with off := true, unheard := s.unheard + 1 }, xs) := by
        rw [Sept.acc, if_neg (by simp [FrSt.isFresh, ha]), FrSt.replay, if_neg (by simp [hu]), if_pos ha]
      obtain ⟨m, b, hr⟩ := ih (f 0) { s with off := true, unheard := s.unheard + 1 } hu rfl ha
      refine ⟨m, b, ?_⟩
      rw [run_acc, e]
      refine hr.trans ?_
      show (dead (f 0), _, xs) = (dead (f 0), _, xs)
      simp only [Prod.mk.injEq, true_and, FrSt.mk.injEq, and_true, ho]
      show s.unheard + 1 + deadN (f 0) = s.unheard + (deadN (f 0) + 1)
      omega
    · have e : (off f).run s xs = (f true).run s xs := by rw [run_off, ho, Bool.or_true]
      rw [e]
      exact ih (f true) s hu ho ha
    · rw [run_mark]
      unfold FrSt.toMark
      split
      · exact ih t' { s with mark := (s.log.getD (s.asked - 1) (0, 0)).2, marked := true } hu ho ha
      · exact ih t' s hu ho ha

/-- Whose access is spent. -/
theorem run_spent {n : Nat} (t : Tree α n) (s : FrSt) (xs : List Int) (hu : s.underway = true) (ho : s.off = false) (ha : s.asked = s.most) :
    ∃ m b, t.run s xs = (t.val, { s with off := t.more, unheard := s.unheard + t.cnt, mark := m, marked := b }, xs) := by
  induction n generalizing s with
  | zero => exact ⟨s.mark, s.marked, by show (_, s, xs) = (_, { s with off := false }, xs); rw [← ho]; rfl⟩
  | succ n ih =>
    rcases kinds t with ⟨x, rfl⟩ | ⟨k, a, v, u, f, rfl⟩ | ⟨f, rfl⟩ | ⟨t', rfl⟩
    · exact ⟨s.mark, s.marked, by show (_, s, xs) = (_, { s with off := false }, xs); rw [← ho]; rfl⟩
    · have e : Sept.acc k a v u s xs = (0, { s with off := true, unheard := s.unheard + 1 }, xs) := by
        rw [Sept.acc, if_neg (by simp [FrSt.isFresh, ha]), FrSt.replay, if_neg (by simp [hu]), if_pos ha]
      obtain ⟨m, b, hr⟩ := run_dead (f 0) { s with off := true, unheard := s.unheard + 1 } xs hu rfl ha
      refine ⟨m, b, ?_⟩
      rw [run_acc, e]
      refine hr.trans ?_
      show (dead (f 0), _, xs) = (dead (f 0), _, xs)
      simp only [Prod.mk.injEq, true_and, FrSt.mk.injEq, and_true]
      show true = true ∧ s.unheard + 1 + deadN (f 0) = s.unheard + (deadN (f 0) + 1)
      exact ⟨rfl, by omega⟩
    · have e : (off f).run s xs = (f false).run s xs := by rw [run_off, hu, ho]; rfl
      rw [e]
      exact ih (f false) s hu ho ha
    · rw [run_mark]
      unfold FrSt.toMark
      split
      · exact ih t' { s with mark := (s.log.getD (s.asked - 1) (0, 0)).2, marked := true } hu ho ha
      · exact ih t' s hu ho ha

/-- A step: the next access is done, and with the one behind it the frame goes off. -/
theorem step {n : Nat} (t : Tree α n) (s : FrSt) (now : Int) (xs : List Int) {A : AccS α} (h : t.after s.answers = some (Sum.inr A)) :
    ∃ s', t.run (s.begun now) xs = ((A.f (ansA A.k A.a A.u xs)).val, s', aftA A.k A.a A.v A.u xs) ∧ s'.off = (A.f (ansA A.k A.a A.u xs)).more ∧ s'.log = s.log ++ [(ansA A.k A.a A.u xs, now)] ∧ s'.mp = s.mp ∧ s'.unheard = (A.f (ansA A.k A.a A.u xs)).cnt := by
  obtain ⟨m, b, h1⟩ := run_replay t (s.begun now) xs rfl rfl (Nat.zero_le _) rfl h
  have e : Sept.acc A.k A.a A.v A.u ((s.begun now).spot s.log.length m b) xs = (ansA A.k A.a A.u xs, ((s.begun now).spot s.log.length m b).kept (ansA A.k A.a A.u xs), aftA A.k A.a A.v A.u xs) := by
    rw [Sept.acc, if_pos (by simp [FrSt.isFresh, FrSt.spot, FrSt.begun])]
  obtain ⟨m2, b2, h2⟩ := run_spent (A.f (ansA A.k A.a A.u xs)) (((s.begun now).spot s.log.length m b).kept (ansA A.k A.a A.u xs)) (aftA A.k A.a A.v A.u xs) rfl rfl rfl
  have h3 : (s.begun now).log.length = s.log.length := rfl
  simp only [h3, run_acc, e] at h1
  rw [h2] at h1
  exact ⟨_, h1, rfl, rfl, rfl, Nat.zero_add _⟩

/-- A step of who has no access left. -/
theorem step_end {n : Nat} (t : Tree α n) (s : FrSt) (now : Int) (xs : List Int) {x : α} (h : t.after s.answers = some (Sum.inl x)) :
    ∃ s', t.run (s.begun now) xs = (x, s', xs) ∧ s'.off = false ∧ s'.log = s.log ∧ s'.mp = s.mp ∧ s'.unheard = 0 := by
  obtain ⟨m, b, h1⟩ := run_replay t (s.begun now) xs rfl rfl (Nat.zero_le _) rfl h
  exact ⟨_, h1, rfl, rfl, rfl, rfl⟩
end Tree

/-- What is asked of a frame ahead of n accesses. -/
structure Fit (n : Nat) (s : FrSt) : Prop where
  heard : s.unheard + n ≤ 1048576
  short : s.log.length + n ≤ 1000000
  behind : s.asked ≤ s.log.length

theorem Fit.mono {n m : Nat} {s : FrSt} (h : Fit n s) (hm : m ≤ n) : Fit m s := ⟨by have := h.heard; omega, by have := h.short; omega, h.behind⟩

theorem acc_cases (k a v u : Int) (s : FrSt) (xs : List Int) : ((acc k a v u s xs).2.1.unheard ≤ s.unheard + 1 ∧ (acc k a v u s xs).2.1.log.length ≤ s.log.length + 1) ∧ (acc k a v u s xs).2.1.most = s.most ∧ (acc k a v u s xs).2.1.underway = s.underway ∧ (acc k a v u s xs).2.1.mp = s.mp ∧ (acc k a v u s xs).2.1.now = s.now := by
  unfold acc
  split
  · simp [FrSt.kept]
  · unfold FrSt.replay
    split
    · simp
    · split <;> simp
theorem acc_behind (k a v u : Int) (s : FrSt) (xs : List Int) (h : s.asked ≤ s.log.length) : (acc k a v u s xs).2.1.asked ≤ (acc k a v u s xs).2.1.log.length := by
  unfold acc
  split
  · simp [FrSt.kept]
    exact h
  · rename_i hf
    unfold FrSt.replay
    split
    · exact h
    · split
      · exact h
      · rename_i h1 h2
        have h3 : s.asked ≠ s.log.length := by
          intro e
          apply hf
          simp [FrSt.isFresh, e]
          refine ⟨by simpa using h1, by rw [← e]; exact h2⟩
        show s.asked + 1 ≤ s.log.length
        omega
theorem Fit.acc {n : Nat} {s : FrSt} (h : Fit (n + 1) s) (k a v u : Int) (xs : List Int) : Fit n (acc k a v u s xs).2.1 := by
  obtain ⟨⟨h1, h2⟩, _⟩ := acc_cases k a v u s xs
  have h3 := h.heard
  have h4 := h.short
  exact ⟨by omega, by omega, acc_behind k a v u s xs h.behind⟩
/-- How many accesses are left till a frame goes off, and that one. -/
def FrSt.left (s : FrSt) : Nat := s.most + 1 - s.asked
theorem acc_left (k a v u : Int) (s : FrSt) (xs : List Int) (hu : s.underway = true) (ho : s.off = false) : (acc k a v u s xs).2.1.off = true ∨ ((acc k a v u s xs).2.1.off = false ∧ (acc k a v u s xs).2.1.asked = s.asked + 1) := by
  unfold acc
  split
  · exact .inr ⟨ho, rfl⟩
  · unfold FrSt.replay
    rw [if_neg (by simp [hu])]
    split
    · exact .inl rfl
    · exact .inr ⟨ho, rfl⟩
theorem acc_asked_le (k a v u : Int) (s : FrSt) (xs : List Int) (h : s.asked ≤ s.most) : (acc k a v u s xs).2.1.asked ≤ s.most := by
  unfold acc
  split
  · rename_i hf
    simp [FrSt.isFresh] at hf
    show s.asked + 1 ≤ s.most
    omega
  · unfold FrSt.replay
    split
    · exact h
    · split
      · exact h
      · show s.asked + 1 ≤ s.most
        omega

theorem Tree.fit {α : Type} {n k : Nat} (t : Tree α n) {s : FrSt} (hf : Fit (n + k) s) (xs : List Int) : Fit k (t.run s xs).2.1 := by
  induction n generalizing s xs with
  | zero => exact hf.mono (by omega)
  | succ n ih =>
    rcases Tree.kinds t with ⟨x, rfl⟩ | ⟨k', a, v, u, f, rfl⟩ | ⟨f, rfl⟩ | ⟨t', rfl⟩
    · exact hf.mono (by omega)
    · rw [Tree.run_acc]
      exact ih _ (Fit.acc (by rwa [show n + k + 1 = n + 1 + k by omega]) k' a v u xs) _
    · rw [Tree.run_off]
      exact ih _ (hf.mono (by omega)) _
    · rw [Tree.run_mark]
      refine ih _ ?_ _
      unfold FrSt.toMark
      split
      · exact ⟨by have := hf.heard; show s.unheard + (n + k) ≤ 1048576; omega, by have := hf.short; show s.log.length + (n + k) ≤ 1000000; omega, hf.behind⟩
      · exact hf.mono (by omega)
end Go.Sept

/-
  Trees of accesses one behind the other (bind), and trees that follow a plain machine. Conditions: none; no program is named here.
-/
namespace Go.Sept
open Go.RowKit

namespace Tree
variable {α β : Type}

/-- The same tree, deeper by one. -/
def up : {n : Nat} → Tree α n → Tree α (n + 1)
  | 0, x => Sum.inl x
  | _ + 1, Sum.inl x => Sum.inl x
  | _ + 1, Sum.inr (Sum.inl (k, f)) => Sum.inr (Sum.inl (k, fun v => up (f v)))
  | _ + 1, Sum.inr (Sum.inr (Sum.inl f)) => Sum.inr (Sum.inr (Sum.inl fun o => up (f o)))
  | _ + 1, Sum.inr (Sum.inr (Sum.inr t)) => Sum.inr (Sum.inr (Sum.inr (up t)))
def ups : {n : Nat} → (d : Nat) → Tree α n → Tree α (n + d)
  | _, 0, t => t
  | _, d + 1, t => up (ups d t)
/-- One tree, and behind its answer the next one. -/
def bind {m : Nat} : {n : Nat} → Tree α n → (α → Tree β m) → Tree β (m + n)
  | 0, x, g => g x
  | n + 1, Sum.inl x, g => ups (n + 1) (g x)
  | _ + 1, Sum.inr (Sum.inl (k, f)), g => Sum.inr (Sum.inl (k, fun v => bind (f v) g))
  | _ + 1, Sum.inr (Sum.inr (Sum.inl f)), g => Sum.inr (Sum.inr (Sum.inl fun o => bind (f o) g))
  | _ + 1, Sum.inr (Sum.inr (Sum.inr t)), g => Sum.inr (Sum.inr (Sum.inr (bind t g)))

theorem up_ret {n : Nat} (x : α) : up (ret x : Tree α n) = ret x := by cases n <;> rfl
theorem up_acc {n : Nat} (k a v u : Int) (f : Int → Tree α n) : up (acc k a v u f) = acc k a v u fun x => up (f x) := rfl
theorem up_off {n : Nat} (f : Bool → Tree α n) : up (off f) = off fun x => up (f x) := rfl
theorem up_mark {n : Nat} (t : Tree α n) : up (mark t) = mark (up t) := rfl
theorem bind_acc {n m : Nat} (k a v u : Int) (f : Int → Tree α n) (g : α → Tree β m) : bind (acc k a v u f) g = acc k a v u fun x => bind (f x) g := rfl
theorem bind_off {n m : Nat} (f : Bool → Tree α n) (g : α → Tree β m) : bind (off f) g = off fun x => bind (f x) g := rfl
theorem bind_mark {n m : Nat} (t : Tree α n) (g : α → Tree β m) : bind (mark t) g = mark (bind t g) := rfl
theorem bind_ret {n m : Nat} (x : α) (g : α → Tree β m) : bind (ret x : Tree α n) g = ups n (g x) := by cases n <;> rfl

theorem run_up {n : Nat} (t : Tree α n) (s : FrSt) (xs : List Int) : (up t).run s xs = t.run s xs := by
  induction n generalizing s xs with
  | zero => rfl
  | succ n ih =>
    rcases kinds t with ⟨x, rfl⟩ | ⟨k, a, v, u, f, rfl⟩ | ⟨f, rfl⟩ | ⟨t', rfl⟩
    · rfl
    · rw [up_acc, run_acc, run_acc, ih]
    · rw [up_off, run_off, run_off, ih]
    · rw [up_mark, run_mark, run_mark, ih]
theorem run_ups {n : Nat} (d : Nat) (t : Tree α n) (s : FrSt) (xs : List Int) : (ups d t).run s xs = t.run s xs := by
  induction d with
  | zero => rfl
  | succ d ih => exact (run_up _ s xs).trans ih
theorem run_bind {n m : Nat} (t : Tree α n) (g : α → Tree β m) (s : FrSt) (xs : List Int) : (bind t g).run s xs = (g (t.run s xs).1).run (t.run s xs).2.1 (t.run s xs).2.2 := by
  induction n generalizing s xs with
  | zero => rfl
  | succ n ih =>
    rcases kinds t with ⟨x, rfl⟩ | ⟨k, a, v, u, f, rfl⟩ | ⟨f, rfl⟩ | ⟨t', rfl⟩
    · rw [bind_ret, run_ups, run_ret]
    · rw [bind_acc, run_acc, run_acc, ih]
    · rw [bind_off, run_off, run_off, ih]
    · rw [bind_mark, run_mark, run_mark, ih]

theorem alone_ret {n : Nat} (x : α) (xs : List Int) : (ret x : Tree α n).alone xs = (x, xs, 0) := by cases n <;> rfl
theorem alone_acc {n : Nat} (k a v u : Int) (f : Int → Tree α n) (xs : List Int) : (acc k a v u f).alone xs = ((alone (f (ansA k a u xs)) (aftA k a v u xs)).1, (alone (f (ansA k a u xs)) (aftA k a v u xs)).2.1, (alone (f (ansA k a u xs)) (aftA k a v u xs)).2.2 + 1) := rfl
theorem alone_off {n : Nat} (f : Bool → Tree α n) (xs : List Int) : (off f).alone xs = (f false).alone xs := rfl
theorem alone_mark {n : Nat} (t : Tree α n) (xs : List Int) : (mark t).alone xs = t.alone xs := rfl
theorem alone_up {n : Nat} (t : Tree α n) (xs : List Int) : (up t).alone xs = t.alone xs := by
  induction n generalizing xs with
  | zero => rfl
  | succ n ih =>
    rcases kinds t with ⟨x, rfl⟩ | ⟨k, a, v, u, f, rfl⟩ | ⟨f, rfl⟩ | ⟨t', rfl⟩
    · rfl
    · rw [up_acc, alone_acc, alone_acc, ih]
    · rw [up_off, alone_off, alone_off, ih]
    · rw [up_mark, alone_mark, alone_mark, ih]
theorem alone_ups {n : Nat} (d : Nat) (t : Tree α n) (xs : List Int) : (ups d t).alone xs = t.alone xs := by
  induction d with
  | zero => rfl
  | succ d ih => exact (alone_up _ xs).trans ih
theorem alone_bind {n m : Nat} (t : Tree α n) (g : α → Tree β m) (xs : List Int) : (bind t g).alone xs = (((g (t.alone xs).1).alone (t.alone xs).2.1).1, ((g (t.alone xs).1).alone (t.alone xs).2.1).2.1, (t.alone xs).2.2 + ((g (t.alone xs).1).alone (t.alone xs).2.1).2.2) := by
  induction n generalizing xs with
  | zero => exact Prod.ext rfl (Prod.ext rfl (Nat.zero_add _).symm)
  | succ n ih =>
    rcases kinds t with ⟨x, rfl⟩ | ⟨k, a, v, u, f, rfl⟩ | ⟨f, rfl⟩ | ⟨t', rfl⟩
    · rw [bind_ret, alone_ups, alone_ret]
      exact Prod.ext rfl (Prod.ext rfl (Nat.zero_add _).symm)
    · rw [bind_acc, alone_acc, alone_acc, ih]
      refine Prod.ext rfl (Prod.ext rfl ?_)
      exact Nat.add_right_comm _ _ _
    · rw [bind_off, alone_off, alone_off, ih]
    · rw [bind_mark, alone_mark, alone_mark, ih]
/-- Alone, one behind the other. -/
theorem alone_then {n m : Nat} {t : Tree α n} {g : α → Tree β m} {xs ys zs : List Int} {x : α} {y : β} {i j : Nat} (h : t.alone xs = (x, ys, i)) (k : (g x).alone ys = (y, zs, j)) : (bind t g).alone xs = (y, zs, i + j) := by
  rw [alone_bind, h]
  simp only
  rw [k]
end Tree

def AccS.up {α : Type} (A : AccS α) : AccS α := ⟨A.m + 1, A.k, A.a, A.v, A.u, fun x => (A.f x).up⟩
namespace Tree
variable {α β : Type}
theorem after_up {n : Nat} (t : Tree α n) : (up t).after [] = (t.after []).map (Sum.map id AccS.up) := by
  induction n with
  | zero => rfl
  | succ n ih =>
    rcases kinds t with ⟨x, rfl⟩ | ⟨k, a, v, u, f, rfl⟩ | ⟨f, rfl⟩ | ⟨t', rfl⟩
    · rfl
    · rfl
    · exact ih (f false)
    · exact ih t'
theorem after_ret {n : Nat} (x : α) : (ret x : Tree α n).after [] = some (Sum.inl x) := by cases n <;> rfl
theorem after_off {n : Nat} (f : Bool → Tree α n) (l : List Int) : (off f).after l = (f false).after l := rfl
theorem after_mark {n : Nat} (t : Tree α n) (l : List Int) : (mark t).after l = t.after l := rfl

/-- A machine: in each state an answer, or an access, and the next state behind what it answers. -/
structure Mach (σ α : Type) where
  obs : σ → Sum α (Int × Int × Int × Int)
  next : σ → Int → σ

/-- The tree does what the machine does, for f accesses at least. -/
def Sim {σ : Type} (M : Mach σ α) : Nat → σ → {n : Nat} → Tree α n → Prop
  | 0, _, _, _ => True
  | f + 1, st, _, t => match M.obs st with
    | Sum.inl x => t.after [] = some (Sum.inl x)
    | Sum.inr (k, a, v, u) => ∃ A : AccS α, t.after [] = some (Sum.inr A) ∧ A.k = k ∧ A.a = a ∧ A.v = v ∧ A.u = u ∧ ∀ x, Sim M f (M.next st x) (A.f x)

section
variable {σ : Type} {M : Mach σ α}
theorem Sim.ret {f : Nat} {st : σ} {x : α} (h : M.obs st = Sum.inl x) {n : Nat} : Sim M f st (ret x : Tree α n) := by
  cases f with
  | zero => trivial
  | succ f =>
    rw [Sim, h]
    exact after_ret x
theorem Sim.acc {f : Nat} {st : σ} {k a v u : Int} (h : M.obs st = Sum.inr (k, a, v, u)) {n : Nat} {g : Int → Tree α n} (hg : ∀ x, Sim M f (M.next st x) (g x)) : Sim M (f + 1) st (Tree.acc k a v u g) := by
  rw [Sim, h]
  exact ⟨⟨n, k, a, v, u, g⟩, rfl, rfl, rfl, rfl, rfl, hg⟩
theorem Sim.off {f : Nat} {st : σ} {n : Nat} {g : Bool → Tree α n} (hg : Sim M f st (g false)) : Sim M f st (Tree.off g) := by
  cases f with
  | zero => trivial
  | succ f =>
    rw [Sim] at hg ⊢
    exact hg
theorem Sim.mark {f : Nat} {st : σ} {n : Nat} {t : Tree α n} (hg : Sim M f st t) : Sim M f st (Tree.mark t) := by
  cases f with
  | zero => trivial
  | succ f =>
    rw [Sim] at hg ⊢
    exact hg
theorem Sim.up {f : Nat} {st : σ} {n : Nat} {t : Tree α n} (h : Sim M f st t) : Sim M f st t.up := by
  induction f generalizing st n with
  | zero => trivial
  | succ f ih =>
    rw [Sim] at h ⊢
    split
    · rename_i x hx
      rw [hx] at h
      simp only at h
      rw [after_up, h]
      rfl
    · rename_i k a v u hx
      rw [hx] at h
      simp only at h
      obtain ⟨A, h1, h2, h3, h4, h5, h6⟩ := h
      refine ⟨A.up, ?_, h2, h3, h4, h5, fun x => ih (h6 x)⟩
      rw [after_up, h1]
      rfl
theorem Sim.ups {f : Nat} {st : σ} {n : Nat} {t : Tree α n} (h : Sim M f st t) (d : Nat) : Sim M f st (t.ups d) := by
  induction d with
  | zero => exact h
  | succ d ih => exact Sim.up (t := t.ups d) ih
theorem Sim.less {f g : Nat} {st : σ} {n : Nat} {t : Tree α n} (h : Sim M f st t) (hg : g ≤ f) : Sim M g st t := by
  induction f generalizing st n g with
  | zero =>
    obtain rfl : g = 0 := by omega
    trivial
  | succ f ih =>
    cases g with
    | zero => trivial
    | succ g =>
      rw [Sim] at h ⊢
      split
      · rename_i x hx
        rw [hx] at h
        exact h
      · rename_i k a v u hx
        rw [hx] at h
        obtain ⟨A, h1, h2, h3, h4, h5, h6⟩ := h
        exact ⟨A, h1, h2, h3, h4, h5, fun x => ih (h6 x) (by omega)⟩
end

/-- Where a tree stands behind the answers l: as the machine does. -/
def StandsAt {σ : Type} (M : Mach σ α) (f : Nat) (T : Sum α (AccS α)) (st : σ) : Prop :=
  match M.obs st with
  | Sum.inl x => T = Sum.inl x
  | Sum.inr (k, a, v, u) => ∃ A : AccS α, T = Sum.inr A ∧ A.k = k ∧ A.a = a ∧ A.v = v ∧ A.u = u ∧ ∀ x, Sim M f (M.next st x) (A.f x)
theorem Sim.start {σ : Type} {M : Mach σ α} {f : Nat} {st : σ} {n : Nat} {t : Tree α n} (h : Sim M (f + 1) st t) : ∃ T, t.after [] = some T ∧ StandsAt M f T st := by
  rw [Sim] at h
  unfold StandsAt
  split
  · rename_i x hx
    rw [hx] at h
    exact ⟨_, h, rfl⟩
  · rename_i k a v u hx
    rw [hx] at h
    obtain ⟨A, h1, h2⟩ := h
    exact ⟨_, h1, A, rfl, h2⟩
end Tree
end Go.Sept
