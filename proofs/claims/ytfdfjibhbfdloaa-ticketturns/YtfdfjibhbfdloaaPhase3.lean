/-
  How far septumlaw03's user is, and what each step does. Conditions: all of it lies in blocks that are not the same.
-/
import Derived.Test.YtfdfjibhbfdloaaTRun
namespace Go.Sept
open Go.RowKit

/-- How far a user is: nothing done; waits (so often); has the lock; has read; has written; is done. -/
def Ph : Type := Sum Unit (Sum (Int × Nat) (Sum Int (Sum (Int × Int) (Sum (Int × Int) (Int × Int)))))

abbrev UR : Type := Int × Int × Bool
def waitF (m : Nat) (t : Int) : Int → Tree UR (3 * m + 7) := fun v => .off fun o => if (!o && (v == t)) = true then inT 0 t (3 * m + 1) else .off fun o2 => if o2 = true then inT 0 t (3 * m) else waitU 0 t m
def endF (t g : Int) (d : Nat) : Int → Tree UR (d + 1) := fun _ => .off fun o2 => .ret (t, g, if o2 = true then true else false)
def putF (t g : Int) (d : Nat) : Int → Tree UR (d + 2) := fun _ => .acc 1 1 (wrap64 (t + 1)) 0 (endF t g d)
def gotF (t : Int) (d : Nat) : Int → Tree UR (d + 3) := fun g => .acc 1 5 (wrap64 (g + 1)) 0 (putF t g d)
def drawF (n : Nat) : Int → Tree UR (3 * (n + 1) + 5) := fun t => waitU 0 t (n + 1)

namespace Ph
def A : Ph := Sum.inl ()
def B (t : Int) (j : Nat) : Ph := Sum.inr (Sum.inl (t, j))
def C (t : Int) : Ph := Sum.inr (Sum.inr (Sum.inl t))
def D (t g : Int) : Ph := Sum.inr (Sum.inr (Sum.inr (Sum.inl (t, g))))
def E (t g : Int) : Ph := Sum.inr (Sum.inr (Sum.inr (Sum.inr (Sum.inl (t, g)))))
def Z (t g : Int) : Ph := Sum.inr (Sum.inr (Sum.inr (Sum.inr (Sum.inr (t, g)))))
theorem kinds (φ : Ph) : φ = A ∨ (∃ t j, φ = B t j) ∨ (∃ t, φ = C t) ∨ (∃ t g, φ = D t g) ∨ (∃ t g, φ = E t g) ∨ ∃ t g, φ = Z t g := by
  rcases (show Sum Unit (Sum (Int × Nat) (Sum Int (Sum (Int × Int) (Sum (Int × Int) (Int × Int))))) from φ) with _ | ⟨t, j⟩ | t | ⟨t, g⟩ | ⟨t, g⟩ | ⟨t, g⟩
  · exact .inl rfl
  · exact .inr (.inl ⟨t, j, rfl⟩)
  · exact .inr (.inr (.inl ⟨t, rfl⟩))
  · exact .inr (.inr (.inr (.inl ⟨t, g, rfl⟩)))
  · exact .inr (.inr (.inr (.inr (.inl ⟨t, g, rfl⟩))))
  · exact .inr (.inr (.inr (.inr (.inr ⟨t, g, rfl⟩))))
/-- Where its tree stands: what is left of it may be of any depth. -/
def Stands (h : Sum UR (AccS UR)) : Ph → Prop
  | Sum.inl _ => h = Sum.inr ⟨3 * (999 + 1) + 5, 2, 0, 1, 0, drawF 999⟩
  | Sum.inr (Sum.inl (t, j)) => h = Sum.inr ⟨3 * (999 - j) + 7, 0, 1, 0, 0, waitF (999 - j) t⟩
  | Sum.inr (Sum.inr (Sum.inl t)) => ∃ d, h = Sum.inr ⟨d + 3, 0, 5, 0, 0, gotF t d⟩
  | Sum.inr (Sum.inr (Sum.inr (Sum.inl (t, g)))) => ∃ d, h = Sum.inr ⟨d + 2, 1, 5, wrap64 (g + 1), 0, putF t g d⟩
  | Sum.inr (Sum.inr (Sum.inr (Sum.inr (Sum.inl (t, g))))) => ∃ d, h = Sum.inr ⟨d + 1, 1, 1, wrap64 (t + 1), 0, endF t g d⟩
  | Sum.inr (Sum.inr (Sum.inr (Sum.inr (Sum.inr (t, g))))) => h = Sum.inl (t, g, false)
def next (xs : List Int) : Ph → Ph
  | Sum.inl _ => B (valA xs 0) 0
  | Sum.inr (Sum.inl (t, j)) => if valA xs 1 = t then C t else B t (j + 1)
  | Sum.inr (Sum.inr (Sum.inl t)) => D t (valA xs 5)
  | Sum.inr (Sum.inr (Sum.inr (Sum.inl (t, g)))) => E t g
  | Sum.inr (Sum.inr (Sum.inr (Sum.inr (Sum.inl (t, g))))) => Z t g
  | Sum.inr (Sum.inr (Sum.inr (Sum.inr (Sum.inr (t, g))))) => Z t g
def words (xs : List Int) : Ph → List Int
  | Sum.inl _ => setA xs 0 (wrap64 (valA xs 0 + 1))
  | Sum.inr (Sum.inl _) => xs
  | Sum.inr (Sum.inr (Sum.inl _)) => xs
  | Sum.inr (Sum.inr (Sum.inr (Sum.inl (_, g)))) => setA xs 5 (wrap64 (g + 1))
  | Sum.inr (Sum.inr (Sum.inr (Sum.inr (Sum.inl (t, _))))) => setA xs 1 (wrap64 (t + 1))
  | Sum.inr (Sum.inr (Sum.inr (Sum.inr (Sum.inr _)))) => xs
def out : Ph → UR
  | Sum.inl _ => (0, 0, false)
  | Sum.inr (Sum.inl (t, _)) => (t, 0, false)
  | Sum.inr (Sum.inr (Sum.inl t)) => (t, 0, true)
  | Sum.inr (Sum.inr (Sum.inr (Sum.inl (t, g)))) => (t, g, true)
  | Sum.inr (Sum.inr (Sum.inr (Sum.inr (Sum.inl (t, g))))) => (t, g, true)
  | Sum.inr (Sum.inr (Sum.inr (Sum.inr (Sum.inr (t, g))))) => (t, g, false)
def isZ : Ph → Bool
  | Sum.inr (Sum.inr (Sum.inr (Sum.inr (Sum.inr _)))) => true
  | _ => false
/-- How many accesses were done, at least where it waits. -/
def waits : Ph → Nat
  | Sum.inr (Sum.inl (_, j)) => j + 1
  | _ => 0
end Ph

theorem wrap_one : wrap64 ((0 : Int) + 1) = 1 := by decide +kernel
theorem inT_after (t : Int) (d : Nat) : (inT 0 t d).after [] = some (Sum.inr ⟨d + 3, 0, 5, 0, 0, gotF t d⟩) := by
  rw [inT, wrap_one]
  rfl
theorem inT_val (t : Int) (d : Nat) : (inT 0 t d).val = (t, 0, true) := by cases d <;> rfl
theorem inT_dead (t : Int) (d : Nat) : (inT 0 t d).dead = (t, 0, false) := by cases d <;> rfl
theorem waitF_yes (m : Nat) (t : Int) : Ph.Stands (((waitF m t t).after []).getD (Sum.inl (0, 0, false))) (.C t) ∧ ((waitF m t t).after []).isSome = true ∧ (waitF m t t).val = (t, 0, true) ∧ (waitF m t t).more = true := by
  have e : waitF m t t = .off fun o => if (!o && (t == t)) = true then inT 0 t (3 * m + 1) else .off fun o2 => if o2 = true then inT 0 t (3 * m) else waitU 0 t m := rfl
  have e1 : (waitF m t t).after [] = (inT 0 t (3 * m + 1)).after [] := by
    rw [e]
    show Tree.after (if (!false && (t == t)) = true then inT 0 t (3 * m + 1) else _) [] = _
    rw [if_pos (by simp)]
  have e2 : (waitF m t t).val = (inT 0 t (3 * m + 1)).val := by
    rw [e]
    show Tree.val (if (!false && (t == t)) = true then inT 0 t (3 * m + 1) else _) = _
    rw [if_pos (by simp)]
  have e3 : (waitF m t t).more = (inT 0 t (3 * m + 1)).more := by
    rw [e]
    show Tree.more (if (!false && (t == t)) = true then inT 0 t (3 * m + 1) else _) = _
    rw [if_pos (by simp)]
  rw [e1, e2, e3, inT_after]
  exact ⟨⟨_, rfl⟩, rfl, inT_val t _, rfl⟩
theorem waitU_succ (m : Nat) (t : Int) : waitU 0 t (m + 1) = .acc 0 1 0 0 (waitF m t) := by
  rw [waitU, wrap_one]
  rfl
theorem waitF_no (m : Nat) (t v : Int) (h : v ≠ t) : (waitF (m + 1) t v).after [] = some (Sum.inr ⟨3 * m + 7, 0, 1, 0, 0, waitF m t⟩) ∧ (waitF (m + 1) t v).val = (t, 0, false) ∧ (waitF (m + 1) t v).more = true := by
  have hv : (v == t) = false := beq_eq_false_iff_ne.2 h
  have e : waitF (m + 1) t v = .off fun o => if (!o && (v == t)) = true then inT 0 t (3 * (m + 1) + 1) else .off fun o2 => if o2 = true then inT 0 t (3 * (m + 1)) else waitU 0 t (m + 1) := rfl
  rw [e, hv]
  refine ⟨?_, ?_, ?_⟩
  · show Tree.after (if (!false && false) = true then inT 0 t (3 * (m + 1) + 1) else .off fun o2 => if o2 = true then inT 0 t (3 * (m + 1)) else waitU 0 t (m + 1)) [] = _
    rw [if_neg (by simp)]
    show Tree.after (if false = true then inT 0 t (3 * (m + 1)) else waitU 0 t (m + 1)) [] = _
    rw [if_neg (by simp), waitU_succ]
    rfl
  · show Tree.val (if (!false && false) = true then inT 0 t (3 * (m + 1) + 1) else .off fun o2 => if o2 = true then inT 0 t (3 * (m + 1)) else waitU 0 t (m + 1)) = _
    rw [if_neg (by simp)]
    show Tree.val (if false = true then inT 0 t (3 * (m + 1)) else waitU 0 t (m + 1)) = _
    rw [if_neg (by simp), waitU_succ]
    show Tree.dead (if (!true && ((0 : Int) == t)) = true then inT 0 t (3 * m + 1) else .off fun o2 => if o2 = true then inT 0 t (3 * m) else waitU 0 t m) = _
    rw [if_neg (by simp)]
    exact inT_dead t _
  · show Tree.more (if (!false && false) = true then inT 0 t (3 * (m + 1) + 1) else .off fun o2 => if o2 = true then inT 0 t (3 * (m + 1)) else waitU 0 t (m + 1)) = _
    rw [if_neg (by simp)]
    show Tree.more (if false = true then inT 0 t (3 * (m + 1)) else waitU 0 t (m + 1)) = _
    rw [if_neg (by simp), waitU_succ]
    rfl
theorem drawF_at (n : Nat) (t : Int) : (drawF n t).after [] = some (Sum.inr ⟨3 * n + 7, 0, 1, 0, 0, waitF n t⟩) ∧ (drawF n t).val = (t, 0, false) ∧ (drawF n t).more = true := by
  rw [drawF, waitU_succ]
  refine ⟨rfl, ?_, rfl⟩
  show Tree.dead (if (!true && ((0 : Int) == t)) = true then inT 0 t (3 * n + 1) else .off fun o2 => if o2 = true then inT 0 t (3 * n) else waitU 0 t n) = _
  rw [if_neg (by simp)]
  exact inT_dead t _
theorem userT_first (n : Nat) : (userT (n + 1) 0).after [] = some (Sum.inr ⟨3 * (n + 1) + 5, 2, 0, 1, 0, drawF n⟩) := rfl
theorem userT_after : ∃ h, (userT 1000 0).after [] = some h ∧ Ph.Stands h .A := ⟨_, userT_first 999, rfl⟩
end Go.Sept

namespace Go.Proofs.Ytfdfjibhbfdloaa
open Go.RowKit Go.Sept

/-- A user and its frame, so far. -/
structure UserAt (w : World) (F lb p q U : Nat) (s : FrSt) (xs : List Int) (φ : Ph) : Prop where
  side : Beside w F lb p q U s xs (userCells 0 φ.out) 62
  aft : ∃ h, (userT 1000 0).after s.answers = some h ∧ Ph.Stands h φ
  idle : s.underway = false
  over : s.done = φ.isZ
  mp : s.mp = some ⟨p, 0, none⟩

theorem UserAt.only {w w' : World} {F lb p q U : Nat} {s : FrSt} {xs : List Int} {φ : Ph} {S : Nat → Prop} (h : UserAt w F lb p q U s xs φ) (ho : Only S w w') (a1 : ¬ S F) (a2 : ¬ S lb) (a3 : ¬ S p) (a4 : ¬ S q) (a5 : ¬ S U) : UserAt w' F lb p q U s xs φ :=
  ⟨h.side.only ho a1 a2 a3 a4 a5, h.aft, h.idle, h.over, h.mp⟩
/-- Where only the memory's row has turned. -/
theorem UserAt.mem {w w' : World} {F lb p q U : Nat} {s : FrSt} {xs ys : List Int} {φ : Ph} {S : Nat → Prop} (h : UserAt w F lb p q U s xs φ) (ho : Only S w w') (hm : Holds 74 w' (.pointer (some ⟨p, 0, none⟩)) p q ys) (a1 : ¬ S F) (a2 : ¬ S lb) (a5 : ¬ S U) : UserAt w' F lb p q U s ys φ :=
  ⟨h.side.mem ho (by rw [h.mp]; exact hm) a1 a2 a5, h.aft, h.idle, h.over, h.mp⟩
theorem UserAt.mem_holds {w : World} {F lb p q U : Nat} {s : FrSt} {xs : List Int} {φ : Ph} (h : UserAt w F lb p q U s xs φ) : Holds 74 w (.pointer (some ⟨p, 0, none⟩)) p q xs := by
  have := h.side.fm.mem
  rwa [h.mp] at this

/-- A step of a user that is not done. -/
theorem user_go (w : World) (F lb p q U : Nat) (s : FrSt) (xs : List Int) (φ : Ph) (now : Int) (h : UserAt w F lb p q U s xs φ) (hz : φ.isZ = false) (hl : s.log.length < 900) (hw : φ.waits ≤ s.log.length) :
    Calls Try.prog 13 #[.pointer (some ⟨F, 0, none⟩), .int .i64 now, userV U] w fun e w' => ∃ lb' s', e = .returned (.bool (φ.next xs).isZ) ∧ UserAt w' F lb' p q U s' (φ.words xs) (φ.next xs) ∧ s'.log.length = s.log.length + 1 ∧ (lb' = lb ∨ w.heap.size ≤ lb') ∧ Only (fun k => k = F ∨ k = lb ∨ k = q ∨ k = U) w w' := by
  have hB := user_of 1000 (by decide) 0
  obtain ⟨h0, hh0, hst⟩ := h.aft
  have key : ∀ (A : AccS UR), h0 = Sum.inr A → (∃ h1, (A.f (ansA A.k A.a A.u xs)).after [] = some h1 ∧ Ph.Stands h1 (φ.next xs)) → (A.f (ansA A.k A.a A.u xs)).val = (φ.next xs).out → (A.f (ansA A.k A.a A.u xs)).more = !(φ.next xs).isZ → aftA A.k A.a A.v A.u xs = φ.words xs →
      Calls Try.prog 13 #[.pointer (some ⟨F, 0, none⟩), .int .i64 now, userV U] w fun e w' => ∃ lb' s', e = .returned (.bool (φ.next xs).isZ) ∧ UserAt w' F lb' p q U s' (φ.words xs) (φ.next xs) ∧ s'.log.length = s.log.length + 1 ∧ (lb' = lb ∨ w.heap.size ≤ lb') ∧ Only (fun k => k = F ∨ k = lb ∨ k = q ∨ k = U) w w' := by
    rintro A e1 ⟨h1, e2, e2'⟩ e3 e4 e5
    refine (hB.step w F lb p q U s xs φ.out now h.side (by rw [h.over, hz]) h.idle (by omega) (A := A) (by rw [hh0, e1])).mono ?_
    rintro e w' ⟨s', rfl, ⟨lb', hb, hlb, ho⟩, g1, g2, g3, g4⟩
    rw [e3, e5] at hb
    rw [e4] at g4 ⊢
    refine ⟨lb', s', by simp, ⟨hb, ⟨h1, ?_, e2'⟩, g3, by rw [g4]; simp, g2.trans h.mp⟩, by rw [g1]; simp, hlb, ho⟩
    rw [answers_snoc g1, Tree.after_snoc _ _ (by rw [hh0, e1]), e2]
  rcases Ph.kinds φ with rfl | ⟨t, j, rfl⟩ | ⟨t, rfl⟩ | ⟨t, g, rfl⟩ | ⟨t, g, rfl⟩ | ⟨t, g, rfl⟩
  · obtain ⟨h1, h2, h3⟩ := drawF_at 999 (valA xs 0)
    exact key _ hst ⟨_, h1, rfl⟩ h2 h3 rfl
  · by_cases hv : valA xs 1 = t
    · subst hv
      obtain ⟨h1, h2, h3, h4⟩ := waitF_yes (999 - j) (valA xs 1)
      have e : Ph.next xs (.B (valA xs 1) j) = .C (valA xs 1) := by show (if valA xs 1 = valA xs 1 then Ph.C (valA xs 1) else Ph.B (valA xs 1) (j + 1)) = _; exact if_pos rfl
      obtain ⟨x, hx⟩ := Option.isSome_iff_exists.1 h2
      rw [hx] at h1
      refine key _ hst ⟨x, hx, ?_⟩ ?_ ?_ rfl
      · rw [e]; exact h1
      · rw [e]; exact h3
      · rw [e]; exact h4
    · have hj : j + 1 ≤ s.log.length := hw
      obtain ⟨m, hm⟩ : ∃ m, 999 - j = m + 1 := ⟨998 - j, by omega⟩
      obtain ⟨h1, h2, h3⟩ := waitF_no m t (valA xs 1) hv
      have e : Ph.next xs (.B t j) = .B t (j + 1) := by show (if valA xs 1 = t then Ph.C t else Ph.B t (j + 1)) = _; exact if_neg hv
      have hm' : m = 999 - (j + 1) := by omega
      rw [← hm] at h1 h2 h3
      rw [hm'] at h1
      refine key _ hst ⟨_, h1, ?_⟩ ?_ ?_ rfl
      · rw [e]; rfl
      · rw [e]; exact h2
      · rw [e]; exact h3
  · obtain ⟨d, hd⟩ := hst
    exact key _ hd ⟨_, rfl, ⟨d, rfl⟩⟩ (by cases d <;> rfl) rfl rfl
  · obtain ⟨d, hd⟩ := hst
    exact key _ hd ⟨_, rfl, ⟨d, rfl⟩⟩ (by cases d <;> rfl) rfl rfl
  · obtain ⟨d, hd⟩ := hst
    refine key _ hd ⟨Sum.inl (t, g, false), ?_, rfl⟩ ?_ ?_ rfl
    · cases d <;> rfl
    · cases d <;> rfl
    · cases d <;> rfl
  · exact absurd (show true = false from hz) (by decide)
end Go.Proofs.Ytfdfjibhbfdloaa
