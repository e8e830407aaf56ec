/-
  Bodies as trees of accesses, and what a step of a frame does with one. Conditions: none; no program is named here.
-/
import Derived.Test.YtfdfjibhbfdloaaFrameIs
namespace Go.Sept
open Go.RowKit

/-- Code that does accesses by a frame: an answer; an access, and what comes behind its answer; a question whether the frame is off; a mark. -/
inductive Tree (α : Type) where
  | ret (x : α)
  | acc (k a v u : Int) (f : Int → Tree α)
  | off (f : Bool → Tree α)
  | mark (t : Tree α)

namespace Tree
variable {α β : Type}

def run : Tree α → FS → List Int → α × FS × List Int
  | .ret x, s, xs => (x, s, xs)
  | .acc k a v u f, s, xs => (f (Sept.acc k a v u s xs).1).run (Sept.acc k a v u s xs).2.1 (Sept.acc k a v u s xs).2.2
  | .off f, s, xs => (f (!s.underway || s.off)).run s xs
  | .mark t, s, xs => t.run s.toMark xs

def bind : Tree α → (α → Tree β) → Tree β
  | .ret x, g => g x
  | .acc k a v u f, g => .acc k a v u fun r => (f r).bind g
  | .off f, g => .off fun b => (f b).bind g
  | .mark t, g => .mark (t.bind g)

theorem run_bind (t : Tree α) (g : α → Tree β) (s : FS) (xs : List Int) : (t.bind g).run s xs = (g (t.run s xs).1).run (t.run s xs).2.1 (t.run s xs).2.2 := by
  induction t generalizing s xs with
  | ret x => rfl
  | acc k a v u f ih => exact ih _ _ _
  | off f ih => exact ih _ _ _
  | mark t ih => exact ih _ _

/-- What is left behind the answers; none: there were not so many. -/
def after : Tree α → List Int → Option (Tree α)
  | .ret x, [] => some (.ret x)
  | .ret _, _ :: _ => none
  | .acc k a v u f, [] => some (.acc k a v u f)
  | .acc _ _ _ _ f, x :: r => (f x).after r
  | .off f, l => (f false).after l
  | .mark t, l => t.after l

/-- What is answered by who is off. -/
def dead : Tree α → α
  | .ret x => x
  | .acc _ _ _ _ f => (f 0).dead
  | .off f => (f true).dead
  | .mark t => t.dead
/-- How often who is off asks. -/
def deadN : Tree α → Nat
  | .ret _ => 0
  | .acc _ _ _ _ f => (f 0).deadN + 1
  | .off f => (f true).deadN
  | .mark t => t.deadN
/-- What is answered by who goes off with the next access. -/
def val : Tree α → α
  | .ret x => x
  | .acc _ _ _ _ f => (f 0).dead
  | .off f => (f false).val
  | .mark t => t.val
def cnt : Tree α → Nat
  | .ret _ => 0
  | .acc _ _ _ _ f => (f 0).deadN + 1
  | .off f => (f false).cnt
  | .mark t => t.cnt
/-- Whether there is a next access. -/
def more : Tree α → Bool
  | .ret _ => false
  | .acc _ _ _ _ _ => true
  | .off f => (f false).more
  | .mark t => t.more

theorem after_nil (t : Tree α) : ∃ t', t.after [] = some t' ∧ t'.val = t.val ∧ t'.cnt = t.cnt ∧ t'.more = t.more := by
  induction t with
  | ret x => exact ⟨_, rfl, rfl, rfl, rfl⟩
  | acc k a v u f ih => exact ⟨_, rfl, rfl, rfl, rfl⟩
  | off f ih => exact ih false
  | mark t ih => exact ih

theorem after_snoc (t : Tree α) (l : List Int) {k a v u : Int} {f : Int → Tree α} (h : t.after l = some (.acc k a v u f)) (x : Int) : t.after (l ++ [x]) = (f x).after [] := by
  induction t generalizing l with
  | ret y => cases l <;> simp [after] at h
  | acc k' a' v' u' f' ih =>
    cases l with
    | nil =>
      simp only [after, Option.some.injEq, Tree.acc.injEq] at h
      obtain ⟨rfl, rfl, rfl, rfl, rfl⟩ := h
      rfl
    | cons y r => exact ih y r h
  | off f' ih => exact ih false l h
  | mark t ih => exact ih l h

theorem after_bind (t : Tree α) (g : α → Tree β) (l : List Int) {k a v u : Int} {f : Int → Tree α} (h : t.after l = some (.acc k a v u f)) : (t.bind g).after l = some (.acc k a v u fun r => (f r).bind g) := by
  induction t generalizing l with
  | ret y => cases l <;> simp [after] at h
  | acc k' a' v' u' f' ih =>
    cases l with
    | nil =>
      simp only [after, Option.some.injEq, Tree.acc.injEq] at h
      obtain ⟨rfl, rfl, rfl, rfl, rfl⟩ := h
      rfl
    | cons y r => exact ih y r h
  | off f' ih => exact ih false l h
  | mark t ih => exact ih l h

/-- A frame as another one but for what was asked, and for its mark. -/
def _root_.Go.Sept.FS.at (s : FS) (n : Nat) (m : Int) (b : Bool) : FS := { s with asked := n, mark := m, marked := b }

theorem drop_getD (l : List (Int × Int)) (n : Nat) (h : n < l.length) : l.drop n = l.getD n (0, 0) :: l.drop (n + 1) := by
  rw [List.drop_eq_getElem_cons h]
  simp [h]

/-- Answers of steps ahead. -/
theorem run_replay (t : Tree α) (s : FS) (xs : List Int) (hu : s.underway = true) (ho : s.off = false) (ha : s.asked ≤ s.log.length) (hm : s.most = s.log.length + 1) {t' : Tree α} (h : t.after ((s.log.drop s.asked).map Prod.fst) = some t') :
    ∃ m b, t.run s xs = t'.run (s.at s.log.length m b) xs := by
  induction t generalizing s with
  | ret x =>
    have h0 : (s.log.drop s.asked).map Prod.fst = [] := by
      cases hl : (s.log.drop s.asked).map Prod.fst with
      | nil => rfl
      | cons y r => rw [hl] at h; simp [after] at h
    rw [h0] at h
    simp only [after, Option.some.injEq] at h
    subst h
    have h1 : s.asked = s.log.length := by
      simp at h0
      omega
    exact ⟨s.mark, s.marked, by rw [FS.at, ← h1]⟩
  | acc k a v u f ih =>
    by_cases hl : s.asked < s.log.length
    · rw [drop_getD _ _ hl] at h
      have e : Sept.acc k a v u s xs = ((s.log.getD s.asked (0, 0)).1, { s with asked := s.asked + 1 }, xs) := by
        have h1 : s.isFresh = false := by
          simp [FS.isFresh, hu]
          intro _
          omega
        rw [Sept.acc, if_neg (by simp [h1]), FS.replay, if_neg (by simp [hu]), if_neg (by omega)]
      obtain ⟨m, b, hr⟩ := ih (s.log.getD s.asked (0, 0)).1 { s with asked := s.asked + 1 } hu ho (show s.asked + 1 ≤ s.log.length from hl) hm h
      refine ⟨m, b, ?_⟩
      simp only [run, e]
      exact hr
    · have h1 : s.asked = s.log.length := by omega
      rw [h1, List.drop_length] at h
      simp only [List.map_nil, after, Option.some.injEq] at h
      subst h
      exact ⟨s.mark, s.marked, by rw [FS.at, ← h1]⟩
  | off f ih =>
    simp only [run, hu, ho, Bool.not_true, Bool.or_self]
    exact ih false s hu ho ha hm h
  | mark t ih =>
    simp only [run]
    unfold FS.toMark
    split
    · exact ih { s with mark := (s.log.getD (s.asked - 1) (0, 0)).2, marked := true } hu ho ha hm h
    · exact ih s hu ho ha hm h

/-- Who is off. -/
theorem run_dead (t : Tree α) (s : FS) (xs : List Int) (hu : s.underway = true) (ho : s.off = true) (ha : s.asked = s.most) :
    ∃ m b, t.run s xs = (t.dead, { s with unheard := s.unheard + t.deadN, mark := m, marked := b }, xs) := by
  induction t generalizing s with
  | ret x => exact ⟨s.mark, s.marked, rfl⟩
  | acc k a v u f ih =>
    have e : Sept.acc k a v u s xs = (0, { s with off := true, unheard := s.unheard + 1 }, xs) := by
      rw [Sept.acc, if_neg (by simp [FS.isFresh, ha]), FS.replay, if_neg (by simp [hu]), if_pos ha]
    obtain ⟨m, b, hr⟩ := ih 0 { s with off := true, unheard := s.unheard + 1 } hu rfl ha
    refine ⟨m, b, ?_⟩
    simp only [run, e, hr, dead, deadN, ho]
    simp only [Prod.mk.injEq, true_and, FS.mk.injEq, and_true]
    omega
  | off f ih =>
    have e : (Tree.off f).run s xs = (f true).run s xs := by simp only [run, ho, Bool.or_true]
    rw [e]
    exact ih true s hu ho ha
  | mark t ih =>
    simp only [run]
    unfold FS.toMark
    split
    · exact ih { s with mark := (s.log.getD (s.asked - 1) (0, 0)).2, marked := true } hu ho ha
    · exact ih s hu ho ha

/-- Whose access is spent. -/
theorem run_spent (t : Tree α) (s : FS) (xs : List Int) (hu : s.underway = true) (ho : s.off = false) (ha : s.asked = s.most) :
    ∃ m b, t.run s xs = (t.val, { s with off := t.more, unheard := s.unheard + t.cnt, mark := m, marked := b }, xs) := by
  induction t generalizing s with
  | ret x => exact ⟨s.mark, s.marked, by simp [run, val, cnt, more, ← ho]⟩
  | acc k a v u f ih =>
    have e : Sept.acc k a v u s xs = (0, { s with off := true, unheard := s.unheard + 1 }, xs) := by
      rw [Sept.acc, if_neg (by simp [FS.isFresh, ha]), FS.replay, if_neg (by simp [hu]), if_pos ha]
    obtain ⟨m, b, hr⟩ := run_dead (f 0) { s with off := true, unheard := s.unheard + 1 } xs hu rfl ha
    refine ⟨m, b, ?_⟩
    simp only [run, e, hr, val, cnt, more]
    simp only [Prod.mk.injEq, true_and, FS.mk.injEq, and_true]
    omega
  | off f ih =>
    have e : (Tree.off f).run s xs = (f false).run s xs := by simp only [run, hu, ho, Bool.not_true, Bool.or_self]
    rw [e]
    exact ih false s hu ho ha
  | mark t ih =>
    simp only [run]
    unfold FS.toMark
    split
    · exact ih { s with mark := (s.log.getD (s.asked - 1) (0, 0)).2, marked := true } hu ho ha
    · exact ih s hu ho ha

/-- The answers that a frame keeps. -/
def _root_.Go.Sept.FS.answers (s : FS) : List Int := s.log.map Prod.fst

/-- A step: the next access is done, and with the one behind it the frame goes off. -/
theorem step (t : Tree α) (s : FS) (now : Int) (xs : List Int) {k a v u : Int} {f : Int → Tree α} (h : t.after s.answers = some (.acc k a v u f)) :
    ∃ s', t.run (s.begun now) xs = ((f (ansA k a u xs)).val, s', aftA k a v u xs) ∧ s'.off = (f (ansA k a u xs)).more ∧ s'.log = s.log ++ [(ansA k a u xs, now)] ∧ s'.mp = s.mp ∧ s'.unheard = (f (ansA k a u xs)).cnt := by
  obtain ⟨m, b, h1⟩ := run_replay t (s.begun now) xs rfl rfl (Nat.zero_le _) rfl h
  have e : Sept.acc k a v u ((s.begun now).at s.log.length m b) xs = (ansA k a u xs, ((s.begun now).at s.log.length m b).kept (ansA k a u xs), aftA k a v u xs) := by
    rw [Sept.acc, if_pos (by simp [FS.isFresh, FS.at, FS.begun])]
  obtain ⟨m2, b2, h2⟩ := run_spent (f (ansA k a u xs)) (((s.begun now).at s.log.length m b).kept (ansA k a u xs)) (aftA k a v u xs) rfl rfl rfl
  have h3 : (s.begun now).log.length = s.log.length := rfl
  rw [h3] at h1
  simp only [run, e] at h1
  rw [h2] at h1
  exact ⟨_, h1, rfl, rfl, rfl, Nat.zero_add _⟩

/-- A step of who has no access left. -/
theorem step_end (t : Tree α) (s : FS) (now : Int) (xs : List Int) {x : α} (h : t.after s.answers = some (.ret x)) :
    ∃ s', t.run (s.begun now) xs = (x, s', xs) ∧ s'.off = false ∧ s'.log = s.log ∧ s'.mp = s.mp ∧ s'.unheard = 0 := by
  obtain ⟨m, b, h1⟩ := run_replay t (s.begun now) xs rfl rfl (Nat.zero_le _) rfl h
  exact ⟨_, h1, rfl, rfl, rfl, rfl⟩

/-- A tree that goes on alone: what it answers, what it leaves, how many accesses it does. -/
def alone : Tree α → List Int → α × List Int × Nat
  | .ret x, xs => (x, xs, 0)
  | .acc k a v u f, xs => (((f (ansA k a u xs)).alone (aftA k a v u xs)).1, ((f (ansA k a u xs)).alone (aftA k a v u xs)).2.1, ((f (ansA k a u xs)).alone (aftA k a v u xs)).2.2 + 1)
  | .off f, xs => (f false).alone xs
  | .mark t, xs => t.alone xs

theorem after_nil_alone (t : Tree α) : ∃ t', t.after [] = some t' ∧ (∀ xs, t'.alone xs = t.alone xs) ∧ ((∃ x, t' = .ret x) ∨ ∃ k a v u f, t' = .acc k a v u f) ∧ t'.val = t.val ∧ t'.more = t.more := by
  induction t with
  | ret x => exact ⟨_, rfl, fun _ => rfl, .inl ⟨_, rfl⟩, rfl, rfl⟩
  | acc k a v u f ih => exact ⟨_, rfl, fun _ => rfl, .inr ⟨_, _, _, _, _, rfl⟩, rfl, rfl⟩
  | off f ih => exact ih false
  | mark t ih => exact ih

theorem answers_snoc {s s' : FS} {x now : Int} (h : s'.log = s.log ++ [(x, now)]) : s'.answers = s.answers ++ [x] := by simp [FS.answers, h]
end Tree

/-- What is asked of a frame ahead of n accesses. -/
structure Fit (n : Nat) (s : FS) : Prop where
  heard : s.unheard + n ≤ 1048576
  short : s.log.length + n ≤ 1000000
  behind : s.asked ≤ s.log.length

theorem Fit.mono {n m : Nat} {s : FS} (h : Fit n s) (hm : m ≤ n) : Fit m s := ⟨by have := h.heard; omega, by have := h.short; omega, h.behind⟩

theorem acc_cases (k a v u : Int) (s : FS) (xs : List Int) : ((acc k a v u s xs).2.1.unheard ≤ s.unheard + 1 ∧ (acc k a v u s xs).2.1.log.length ≤ s.log.length + 1) ∧ (acc k a v u s xs).2.1.most = s.most ∧ (acc k a v u s xs).2.1.underway = s.underway ∧ (acc k a v u s xs).2.1.mp = s.mp ∧ (acc k a v u s xs).2.1.now = s.now := by
  unfold acc
  split
  · simp [FS.kept]
  · unfold FS.replay
    split
    · simp
    · split <;> simp
theorem acc_behind (k a v u : Int) (s : FS) (xs : List Int) (h : s.asked ≤ s.log.length) : (acc k a v u s xs).2.1.asked ≤ (acc k a v u s xs).2.1.log.length := by
  unfold acc
  split
  · simp [FS.kept]
    exact h
  · rename_i hf
    unfold FS.replay
    split
    · exact h
    · split
      · exact h
      · rename_i h1 h2
        have h3 : s.asked ≠ s.log.length := by
          intro e
          apply hf
          simp [FS.isFresh, e]
          refine ⟨by simpa using h1, by rw [← e]; exact h2⟩
        show s.asked + 1 ≤ s.log.length
        omega
theorem Fit.acc {n : Nat} {s : FS} (h : Fit (n + 1) s) (k a v u : Int) (xs : List Int) : Fit n (acc k a v u s xs).2.1 := by
  obtain ⟨⟨h1, h2⟩, _⟩ := acc_cases k a v u s xs
  have h3 := h.heard
  have h4 := h.short
  exact ⟨by omega, by omega, acc_behind k a v u s xs h.behind⟩
/-- How many accesses are left till a frame goes off, and that one. -/
def FS.left (s : FS) : Nat := s.most + 1 - s.asked
theorem acc_left (k a v u : Int) (s : FS) (xs : List Int) (hu : s.underway = true) (ho : s.off = false) : (acc k a v u s xs).2.1.off = true ∨ ((acc k a v u s xs).2.1.off = false ∧ (acc k a v u s xs).2.1.asked = s.asked + 1) := by
  unfold acc
  split
  · exact .inr ⟨ho, rfl⟩
  · unfold FS.replay
    rw [if_neg (by simp [hu])]
    split
    · exact .inl rfl
    · exact .inr ⟨ho, rfl⟩
theorem acc_asked_le (k a v u : Int) (s : FS) (xs : List Int) (h : s.asked ≤ s.most) : (acc k a v u s xs).2.1.asked ≤ s.most := by
  unfold acc
  split
  · rename_i hf
    simp [FS.isFresh] at hf
    show s.asked + 1 ≤ s.most
    omega
  · unfold FS.replay
    split
    · exact h
    · split
      · exact h
      · show s.asked + 1 ≤ s.most
        omega

/-- At most n accesses. -/
def Tree.Within {α : Type} : Tree α → Nat → Prop
  | .ret _, _ => True
  | .acc _ _ _ _ f, n => 0 < n ∧ ∀ x, (f x).Within (n - 1)
  | .off f, n => ∀ b, (f b).Within n
  | .mark t, n => t.Within n
theorem Tree.Within.mono {α : Type} {t : Tree α} {n m : Nat} (h : t.Within n) (hm : n ≤ m) : t.Within m := by
  induction t generalizing n m with
  | ret x => trivial
  | acc k a v u f ih => exact ⟨by have := h.1; omega, fun x => ih x (h.2 x) (by omega)⟩
  | off f ih => exact fun b => ih b (h b) hm
  | mark t ih => exact ih h hm
theorem Tree.Within.bind {α β : Type} {t : Tree α} {g : α → Tree β} {n m : Nat} (h : t.Within n) (hg : ∀ x, (g x).Within m) : (t.bind g).Within (n + m) := by
  induction t generalizing n with
  | ret x => exact (hg x).mono (by omega)
  | acc k a v u f ih => exact ⟨by have := h.1; omega, fun x => by have h1 := ih x (h.2 x); have h2 := h.1; rwa [show n - 1 + m = n + m - 1 by omega] at h1⟩
  | off f ih => exact fun b => ih b (h b)
  | mark t ih => exact ih h
theorem Tree.Within.fit {α : Type} {t : Tree α} {n k : Nat} {s : FS} (h : t.Within n) (hf : Fit (n + k) s) (xs : List Int) : Fit k (t.run s xs).2.1 := by
  induction t generalizing n s xs with
  | ret x => exact hf.mono (by omega)
  | acc k' a v u f ih =>
    have h1 := h.1
    exact ih _ (n := n - 1) (h.2 _) (Fit.acc (by rwa [show n - 1 + k + 1 = n + k by omega]) k' a v u xs) _
  | off f ih => exact ih _ (h _) hf _
  | mark t ih =>
    refine ih h ?_ xs
    unfold FS.toMark
    split
    · exact ⟨hf.heard, hf.short, hf.behind⟩
    · exact hf
end Go.Sept
