/-
  Trees of accesses one behind the other (bind), and trees that follow a plain machine. Conditions: none; no program is named here.
-/
import Derived.Test.YtapmakdklpbjkaaTree
namespace Go.Sept
open Go.RowKit

namespace Tree
variable {α β : Type}

/-- The same tree, deeper by one. -/
def up : {n : Nat} → Tree α n → Tree α (n + 1)
  | 0, x => Sum.inl x
  | _ + 1, Sum.inl x => Sum.inl x
  | _ + 1, Sum.inr (Sum.inl (k, f)) => Sum.inr (Sum.inl (k, fun v => up (f v)))
  | _ + 1, Sum.inr (Sum.inr (Sum.inl f)) => Sum.inr (Sum.inr (Sum.inl fun o => up (f o)))
  | _ + 1, Sum.inr (Sum.inr (Sum.inr t)) => Sum.inr (Sum.inr (Sum.inr (up t)))
def ups : {n : Nat} → (d : Nat) → Tree α n → Tree α (n + d)
  | _, 0, t => t
  | _, d + 1, t => up (ups d t)
/-- One tree, and behind its answer the next one. -/
def bind {m : Nat} : {n : Nat} → Tree α n → (α → Tree β m) → Tree β (m + n)
  | 0, x, g => g x
  | n + 1, Sum.inl x, g => ups (n + 1) (g x)
  | _ + 1, Sum.inr (Sum.inl (k, f)), g => Sum.inr (Sum.inl (k, fun v => bind (f v) g))
  | _ + 1, Sum.inr (Sum.inr (Sum.inl f)), g => Sum.inr (Sum.inr (Sum.inl fun o => bind (f o) g))
  | _ + 1, Sum.inr (Sum.inr (Sum.inr t)), g => Sum.inr (Sum.inr (Sum.inr (bind t g)))

theorem up_ret {n : Nat} (x : α) : up (ret x : Tree α n) = ret x := by cases n <;> rfl
theorem up_acc {n : Nat} (k a v u : Int) (f : Int → Tree α n) : up (acc k a v u f) = acc k a v u fun x => up (f x) := rfl
theorem up_off {n : Nat} (f : Bool → Tree α n) : up (off f) = off fun x => up (f x) := rfl
theorem up_mark {n : Nat} (t : Tree α n) : up (mark t) = mark (up t) := rfl
theorem bind_acc {n m : Nat} (k a v u : Int) (f : Int → Tree α n) (g : α → Tree β m) : bind (acc k a v u f) g = acc k a v u fun x => bind (f x) g := rfl
theorem bind_off {n m : Nat} (f : Bool → Tree α n) (g : α → Tree β m) : bind (off f) g = off fun x => bind (f x) g := rfl
theorem bind_mark {n m : Nat} (t : Tree α n) (g : α → Tree β m) : bind (mark t) g = mark (bind t g) := rfl
theorem bind_ret {n m : Nat} (x : α) (g : α → Tree β m) : bind (ret x : Tree α n) g = ups n (g x) := by cases n <;> rfl

theorem run_up {n : Nat} (t : Tree α n) (s : FrSt) (xs : List Int) : (up t).run s xs = t.run s xs := by
  induction n generalizing s xs with
  | zero => rfl
  | succ n ih =>
    rcases kinds t with ⟨x, rfl⟩ | ⟨k, a, v, u, f, rfl⟩ | ⟨f, rfl⟩ | ⟨t', rfl⟩
    · rfl
    · rw [up_acc, run_acc, run_acc, ih]
    · rw [up_off, run_off, run_off, ih]
    · rw [up_mark, run_mark, run_mark, ih]
theorem run_ups {n : Nat} (d : Nat) (t : Tree α n) (s : FrSt) (xs : List Int) : (ups d t).run s xs = t.run s xs := by
  induction d with
  | zero => rfl
  | succ d ih => exact (run_up _ s xs).trans ih
theorem run_bind {n m : Nat} (t : Tree α n) (g : α → Tree β m) (s : FrSt) (xs : List Int) : (bind t g).run s xs = (g (t.run s xs).1).run (t.run s xs).2.1 (t.run s xs).2.2 := by
  induction n generalizing s xs with
  | zero => rfl
  | succ n ih =>
    rcases kinds t with ⟨x, rfl⟩ | ⟨k, a, v, u, f, rfl⟩ | ⟨f, rfl⟩ | ⟨t', rfl⟩
    · rw [bind_ret, run_ups, run_ret]
    · rw [bind_acc, run_acc, run_acc, ih]
    · rw [bind_off, run_off, run_off, ih]
    · rw [bind_mark, run_mark, run_mark, ih]

theorem alone_ret {n : Nat} (x : α) (xs : List Int) : (ret x : Tree α n).alone xs = (x, xs, 0) := by cases n <;> rfl
theorem alone_acc {n : Nat} (k a v u : Int) (f : Int → Tree α n) (xs : List Int) : (acc k a v u f).alone xs = ((alone (f (ansA k a u xs)) (aftA k a v u xs)).1, (alone (f (ansA k a u xs)) (aftA k a v u xs)).2.1, (alone (f (ansA k a u xs)) (aftA k a v u xs)).2.2 + 1) := rfl
theorem alone_off {n : Nat} (f : Bool → Tree α n) (xs : List Int) : (off f).alone xs = (f false).alone xs := rfl
theorem alone_mark {n : Nat} (t : Tree α n) (xs : List Int) : (mark t).alone xs = t.alone xs := rfl
theorem alone_up {n : Nat} (t : Tree α n) (xs : List Int) : (up t).alone xs = t.alone xs := by
  induction n generalizing xs with
  | zero => rfl
  | succ n ih =>
    rcases kinds t with ⟨x, rfl⟩ | ⟨k, a, v, u, f, rfl⟩ | ⟨f, rfl⟩ | ⟨t', rfl⟩
    · rfl
    · rw [up_acc, alone_acc, alone_acc, ih]
    · rw [up_off, alone_off, alone_off, ih]
    · rw [up_mark, alone_mark, alone_mark, ih]
theorem alone_ups {n : Nat} (d : Nat) (t : Tree α n) (xs : List Int) : (ups d t).alone xs = t.alone xs := by
  induction d with
  | zero => rfl
  | succ d ih => exact (alone_up _ xs).trans ih
theorem alone_bind {n m : Nat} (t : Tree α n) (g : α → Tree β m) (xs : List Int) : (bind t g).alone xs = (((g (t.alone xs).1).alone (t.alone xs).2.1).1, ((g (t.alone xs).1).alone (t.alone xs).2.1).2.1, (t.alone xs).2.2 + ((g (t.alone xs).1).alone (t.alone xs).2.1).2.2) := by
  induction n generalizing xs with
  | zero => exact Prod.ext rfl (Prod.ext rfl (Nat.zero_add _).symm)
  | succ n ih =>
    rcases kinds t with ⟨x, rfl⟩ | ⟨k, a, v, u, f, rfl⟩ | ⟨f, rfl⟩ | ⟨t', rfl⟩
    · rw [bind_ret, alone_ups, alone_ret]
      exact Prod.ext rfl (Prod.ext rfl (Nat.zero_add _).symm)
    · rw [bind_acc, alone_acc, alone_acc, ih]
      refine Prod.ext rfl (Prod.ext rfl ?_)
      exact Nat.add_right_comm _ _ _
    · rw [bind_off, alone_off, alone_off, ih]
    · rw [bind_mark, alone_mark, alone_mark, ih]
/-- Alone, one behind the other. -/
theorem alone_then {n m : Nat} {t : Tree α n} {g : α → Tree β m} {xs ys zs : List Int} {x : α} {y : β} {i j : Nat} (h : t.alone xs = (x, ys, i)) (k : (g x).alone ys = (y, zs, j)) : (bind t g).alone xs = (y, zs, i + j) := by
  rw [alone_bind, h]
  simp only
  rw [k]
end Tree

def AccS.up {α : Type} (A : AccS α) : AccS α := ⟨A.m + 1, A.k, A.a, A.v, A.u, fun x => (A.f x).up⟩
namespace Tree
variable {α β : Type}
theorem after_up {n : Nat} (t : Tree α n) : (up t).after [] = (t.after []).map (Sum.map id AccS.up) := by
  induction n with
  | zero => rfl
  | succ n ih =>
    rcases kinds t with ⟨x, rfl⟩ | ⟨k, a, v, u, f, rfl⟩ | ⟨f, rfl⟩ | ⟨t', rfl⟩
    · rfl
    · rfl
    · exact ih (f false)
    · exact ih t'
theorem after_ret {n : Nat} (x : α) : (ret x : Tree α n).after [] = some (Sum.inl x) := by cases n <;> rfl
theorem after_off {n : Nat} (f : Bool → Tree α n) (l : List Int) : (off f).after l = (f false).after l := rfl
theorem after_mark {n : Nat} (t : Tree α n) (l : List Int) : (mark t).after l = t.after l := rfl

/-- A machine: in each state an answer, or an access, and the next state behind what it answers. -/
structure Mach (σ α : Type) where
  obs : σ → Sum α (Int × Int × Int × Int)
  next : σ → Int → σ

/-- The tree does what the machine does, for f accesses at least. -/
def Sim {σ : Type} (M : Mach σ α) : Nat → σ → {n : Nat} → Tree α n → Prop
  | 0, _, _, _ => True
  | f + 1, st, _, t => match M.obs st with
    | Sum.inl x => t.after [] = some (Sum.inl x)
    | Sum.inr (k, a, v, u) => ∃ A : AccS α, t.after [] = some (Sum.inr A) ∧ A.k = k ∧ A.a = a ∧ A.v = v ∧ A.u = u ∧ ∀ x, Sim M f (M.next st x) (A.f x)

section
variable {σ : Type} {M : Mach σ α}
theorem Sim.ret {f : Nat} {st : σ} {x : α} (h : M.obs st = Sum.inl x) {n : Nat} : Sim M f st (ret x : Tree α n) := by
  cases f with
  | zero => trivial
  | succ f =>
    rw [Sim, h]
    exact after_ret x
theorem Sim.acc {f : Nat} {st : σ} {k a v u : Int} (h : M.obs st = Sum.inr (k, a, v, u)) {n : Nat} {g : Int → Tree α n} (hg : ∀ x, Sim M f (M.next st x) (g x)) : Sim M (f + 1) st (Tree.acc k a v u g) := by
  rw [Sim, h]
  exact ⟨⟨n, k, a, v, u, g⟩, rfl, rfl, rfl, rfl, rfl, hg⟩
theorem Sim.off {f : Nat} {st : σ} {n : Nat} {g : Bool → Tree α n} (hg : Sim M f st (g false)) : Sim M f st (Tree.off g) := by
  cases f with
  | zero => trivial
  | succ f =>
    rw [Sim] at hg ⊢
    exact hg
theorem Sim.mark {f : Nat} {st : σ} {n : Nat} {t : Tree α n} (hg : Sim M f st t) : Sim M f st (Tree.mark t) := by
  cases f with
  | zero => trivial
  | succ f =>
    rw [Sim] at hg ⊢
    exact hg
theorem Sim.up {f : Nat} {st : σ} {n : Nat} {t : Tree α n} (h : Sim M f st t) : Sim M f st t.up := by
  induction f generalizing st n with
  | zero => trivial
  | succ f ih =>
    rw [Sim] at h ⊢
    split
    · rename_i x hx
      rw [hx] at h
      simp only at h
      rw [after_up, h]
      rfl
    · rename_i k a v u hx
      rw [hx] at h
      simp only at h
      obtain ⟨A, h1, h2, h3, h4, h5, h6⟩ := h
      refine ⟨A.up, ?_, h2, h3, h4, h5, fun x => ih (h6 x)⟩
      rw [after_up, h1]
      rfl
theorem Sim.ups {f : Nat} {st : σ} {n : Nat} {t : Tree α n} (h : Sim M f st t) (d : Nat) : Sim M f st (t.ups d) := by
  induction d with
  | zero => exact h
  | succ d ih => exact Sim.up (t := t.ups d) ih
theorem Sim.less {f g : Nat} {st : σ} {n : Nat} {t : Tree α n} (h : Sim M f st t) (hg : g ≤ f) : Sim M g st t := by
  induction f generalizing st n g with
  | zero =>
    obtain rfl : g = 0 := by omega
    trivial
  | succ f ih =>
    cases g with
    | zero => trivial
    | succ g =>
      rw [Sim] at h ⊢
      split
      · rename_i x hx
        rw [hx] at h
        exact h
      · rename_i k a v u hx
        rw [hx] at h
        obtain ⟨A, h1, h2, h3, h4, h5, h6⟩ := h
        exact ⟨A, h1, h2, h3, h4, h5, fun x => ih (h6 x) (by omega)⟩
end

/-- Where a tree stands behind the answers l: as the machine does. -/
def StandsAt {σ : Type} (M : Mach σ α) (f : Nat) (T : Sum α (AccS α)) (st : σ) : Prop :=
  match M.obs st with
  | Sum.inl x => T = Sum.inl x
  | Sum.inr (k, a, v, u) => ∃ A : AccS α, T = Sum.inr A ∧ A.k = k ∧ A.a = a ∧ A.v = v ∧ A.u = u ∧ ∀ x, Sim M f (M.next st x) (A.f x)
theorem Sim.start {σ : Type} {M : Mach σ α} {f : Nat} {st : σ} {n : Nat} {t : Tree α n} (h : Sim M (f + 1) st t) : ∃ T, t.after [] = some T ∧ StandsAt M f T st := by
  rw [Sim] at h
  unfold StandsAt
  split
  · rename_i x hx
    rw [hx] at h
    exact ⟨_, h, rfl⟩
  · rename_i k a v u hx
    rw [hx] at h
    obtain ⟨A, h1, h2⟩ := h
    exact ⟨_, h1, A, rfl, h2⟩
end Tree
end Go.Sept
