/-
  How far septumlaw03's user is, and what each step does. Conditions: all of it lies in blocks that are not the same.
-/
import Derived.Test.YtfdfjibhbfdloaaTRun
namespace Go.Sept
open Go.RowKit

/-- How far a user is: nothing done; waits (so often); has the lock; has read; has written; is done. -/
inductive Ph where
  | A
  | B (t : Int) (j : Nat)
  | C (t : Int)
  | D (t g : Int)
  | E (t g : Int)
  | Z (t g : Int)

def waitF (m : Nat) (a t : Int) : Int → Tree (Int × Int × Bool) := fun v => (Tree.off fun o => if (!o && (v == t)) = true then .ret t else .off fun o2 => if o2 = true then .ret t else waitT m a t).bind (inT a)
def endF (t g : Int) : Int → Tree (Int × Int × Bool) := fun _ => .off fun o2 => .ret (t, g, if o2 = true then true else false)
def putF (t g : Int) : Int → Tree (Int × Int × Bool) := fun _ => .acc 1 1 (wrap64 (t + 1)) 0 (endF t g)
def gotF (t : Int) : Int → Tree (Int × Int × Bool) := fun g => .acc 1 5 (wrap64 (g + 1)) 0 (putF t g)
def drawF : Int → Tree (Int × Int × Bool) := fun t => (waitT 1000 0 t).bind (inT 0)

namespace Ph
def tree : Ph → Tree (Int × Int × Bool)
  | A => .acc 2 0 1 0 drawF
  | B t j => .acc 0 1 0 0 (waitF (999 - j) 0 t)
  | C t => .acc 0 5 0 0 (gotF t)
  | D t g => .acc 1 5 (wrap64 (g + 1)) 0 (putF t g)
  | E t g => .acc 1 1 (wrap64 (t + 1)) 0 (endF t g)
  | Z t g => .ret (t, g, false)
def next (xs : List Int) : Ph → Ph
  | A => B (valA xs 0) 0
  | B t j => if valA xs 1 = t then C t else B t (j + 1)
  | C t => D t (valA xs 5)
  | D t g => E t g
  | E t g => Z t g
  | Z t g => Z t g
def words (xs : List Int) : Ph → List Int
  | A => setA xs 0 (wrap64 (valA xs 0 + 1))
  | B _ _ => xs
  | C _ => xs
  | D _ g => setA xs 5 (wrap64 (g + 1))
  | E t _ => setA xs 1 (wrap64 (t + 1))
  | Z _ _ => xs
def out : Ph → Int × Int × Bool
  | A => (0, 0, false)
  | B t _ => (t, 0, false)
  | C t => (t, 0, true)
  | D t g => (t, g, true)
  | E t g => (t, g, true)
  | Z t g => (t, g, false)
def isZ : Ph → Bool
  | Z _ _ => true
  | _ => false
/-- How many accesses were done, at least where it waits. -/
def waits : Ph → Nat
  | B _ j => j + 1
  | _ => 0
end Ph

theorem wrap_one : wrap64 ((0 : Int) + 1) = 1 := by decide +kernel
theorem waitT_bind (m : Nat) (t : Int) : (waitT (m + 1) 0 t).bind (inT 0) = .acc 0 1 0 0 (waitF m 0 t) := by
  rw [waitT, wrap_one]
  rfl
theorem inT_after (t : Int) : (inT 0 t).after [] = some (.acc 0 5 0 0 (gotF t)) := by
  rw [inT, wrap_one]
  rfl
theorem waitF_yes (m : Nat) (t : Int) : (waitF m 0 t t).after [] = some (.acc 0 5 0 0 (gotF t)) ∧ (waitF m 0 t t).val = (t, 0, true) ∧ (waitF m 0 t t).more = true := by
  have e : waitF m 0 t t = .off fun o => (if (!o && (t == t)) = true then .ret t else .off fun o2 => if o2 = true then .ret t else waitT m 0 t : Tree Int).bind (inT 0) := rfl
  rw [e]
  simp only [Tree.after, Tree.val, Tree.more, Bool.not_false, Bool.true_and, beq_self_eq_true, if_true, Tree.bind]
  exact ⟨inT_after t, rfl, rfl⟩
theorem waitF_no (m : Nat) (t v : Int) (h : v ≠ t) : (waitF (m + 1) 0 t v).after [] = some (.acc 0 1 0 0 (waitF m 0 t)) ∧ (waitF (m + 1) 0 t v).val = (t, 0, false) ∧ (waitF (m + 1) 0 t v).more = true := by
  have e : waitF (m + 1) 0 t v = .off fun o => (if (!o && (v == t)) = true then .ret t else .off fun o2 => if o2 = true then .ret t else waitT (m + 1) 0 t : Tree Int).bind (inT 0) := rfl
  have hv : (v == t) = false := beq_eq_false_iff_ne.2 h
  rw [e]
  simp only [Tree.after, Tree.val, Tree.more, Bool.not_false, Bool.true_and, hv, Bool.false_eq_true, if_false, Tree.bind, waitT_bind]
  exact ⟨trivial, rfl, trivial⟩
theorem drawF_at (t : Int) : (drawF t).after [] = some (.acc 0 1 0 0 (waitF 999 0 t)) ∧ (drawF t).val = (t, 0, false) ∧ (drawF t).more = true := by
  rw [drawF, waitT_bind]
  exact ⟨rfl, rfl, rfl⟩
theorem userT_after : (userT 1000 0).after [] = some (Ph.tree .A) := rfl
end Go.Sept

namespace Go.Proofs.Ytfdfjibhbfdloaa
open Go.RowKit Go.Sept

/-- A user and its frame, so far. -/
structure UserAt (w : World) (F lb p q U : Nat) (s : FS) (xs : List Int) (φ : Ph) : Prop where
  side : Beside w F lb p q U s xs (userCells 0 φ.out) 62
  aft : (userT 1000 0).after s.answers = some φ.tree
  idle : s.underway = false
  over : s.done = φ.isZ
  mp : s.mp = some ⟨p, 0, none⟩

theorem UserAt.only {w w' : World} {F lb p q U : Nat} {s : FS} {xs : List Int} {φ : Ph} {S : Nat → Prop} (h : UserAt w F lb p q U s xs φ) (ho : Only S w w') (a1 : ¬ S F) (a2 : ¬ S lb) (a3 : ¬ S p) (a4 : ¬ S q) (a5 : ¬ S U) : UserAt w' F lb p q U s xs φ :=
  ⟨h.side.only ho a1 a2 a3 a4 a5, h.aft, h.idle, h.over, h.mp⟩
/-- Where only the memory's row has turned. -/
theorem UserAt.mem {w w' : World} {F lb p q U : Nat} {s : FS} {xs ys : List Int} {φ : Ph} {S : Nat → Prop} (h : UserAt w F lb p q U s xs φ) (ho : Only S w w') (hm : Holds 74 w' (.pointer (some ⟨p, 0, none⟩)) p q ys) (a1 : ¬ S F) (a2 : ¬ S lb) (a5 : ¬ S U) : UserAt w' F lb p q U s ys φ :=
  ⟨h.side.mem ho (by rw [h.mp]; exact hm) a1 a2 a5, h.aft, h.idle, h.over, h.mp⟩
theorem UserAt.mem_holds {w : World} {F lb p q U : Nat} {s : FS} {xs : List Int} {φ : Ph} (h : UserAt w F lb p q U s xs φ) : Holds 74 w (.pointer (some ⟨p, 0, none⟩)) p q xs := by
  have := h.side.fm.mem
  rwa [h.mp] at this

/-- A step of a user that is not done. -/
theorem user_go (w : World) (F lb p q U : Nat) (s : FS) (xs : List Int) (φ : Ph) (now : Int) (h : UserAt w F lb p q U s xs φ) (hz : φ.isZ = false) (hl : s.log.length < 900) (hw : φ.waits ≤ s.log.length) :
    Calls Try.prog 13 #[.pointer (some ⟨F, 0, none⟩), .int .i64 now, userV U] w fun e w' => ∃ lb' s', e = .returned (.bool (φ.next xs).isZ) ∧ UserAt w' F lb' p q U s' (φ.words xs) (φ.next xs) ∧ s'.log.length = s.log.length + 1 ∧ (lb' = lb ∨ w.heap.size ≤ lb') ∧ Only (fun k => k = F ∨ k = lb ∨ k = q ∨ k = U) w w' := by
  have hB := user_of 1000 (by decide) 0
  have key : ∀ (k a v u : Int) (f : Int → Tree (Int × Int × Bool)), φ.tree = .acc k a v u f → (f (ansA k a u xs)).after [] = some (φ.next xs).tree → (f (ansA k a u xs)).val = (φ.next xs).out → (f (ansA k a u xs)).more = !(φ.next xs).isZ → aftA k a v u xs = φ.words xs →
      Calls Try.prog 13 #[.pointer (some ⟨F, 0, none⟩), .int .i64 now, userV U] w fun e w' => ∃ lb' s', e = .returned (.bool (φ.next xs).isZ) ∧ UserAt w' F lb' p q U s' (φ.words xs) (φ.next xs) ∧ s'.log.length = s.log.length + 1 ∧ (lb' = lb ∨ w.heap.size ≤ lb') ∧ Only (fun k => k = F ∨ k = lb ∨ k = q ∨ k = U) w w' := by
    intro k a v u f e1 e2 e3 e4 e5
    refine (hB.step w F lb p q U s xs φ.out now h.side (by rw [h.over, hz]) h.idle (by omega) (k := k) (a := a) (v := v) (u := u) (f := f) (by rw [h.aft, e1])).mono ?_
    rintro e w' ⟨s', rfl, ⟨lb', hb, hlb, ho⟩, g1, g2, g3, g4⟩
    rw [e3, e5] at hb
    rw [e4] at g4 ⊢
    refine ⟨lb', s', by simp, ⟨hb, ?_, g3, by rw [g4]; simp, g2.trans h.mp⟩, by rw [g1]; simp, hlb, ho⟩
    rw [Tree.answers_snoc g1, Tree.after_snoc _ _ (by rw [h.aft, e1]), e2]
  cases φ with
  | A =>
    obtain ⟨h1, h2, h3⟩ := drawF_at (valA xs 0)
    exact key _ _ _ _ _ rfl h1 h2 h3 rfl
  | B t j =>
    by_cases hv : valA xs 1 = t
    · subst hv
      obtain ⟨h1, h2, h3⟩ := waitF_yes (999 - j) (valA xs 1)
      have e : Ph.next xs (.B (valA xs 1) j) = .C (valA xs 1) := by simp [Ph.next]
      refine key _ _ _ _ _ rfl ?_ ?_ ?_ rfl
      · rw [e]; exact h1
      · rw [e]; exact h2
      · rw [e]; exact h3
    · have hj : j + 1 ≤ s.log.length := hw
      obtain ⟨m, hm⟩ : ∃ m, 999 - j = m + 1 := ⟨998 - j, by omega⟩
      obtain ⟨h1, h2, h3⟩ := waitF_no m t (valA xs 1) hv
      have e : Ph.next xs (.B t j) = .B t (j + 1) := by simp [Ph.next, hv]
      rw [← hm] at h1 h2 h3
      have hm' : m = 999 - (j + 1) := by omega
      rw [hm'] at h1
      refine key _ _ _ _ _ rfl ?_ ?_ ?_ rfl
      · rw [e]; exact h1
      · rw [e]; exact h2
      · rw [e]; exact h3
  | C t => exact key _ _ _ _ _ rfl rfl rfl rfl rfl
  | D t g => exact key _ _ _ _ _ rfl rfl rfl rfl rfl
  | E t g => exact key _ _ _ _ _ rfl rfl rfl rfl rfl
  | Z t g => simp [Ph.isZ] at hz
end Go.Proofs.Ytfdfjibhbfdloaa
