/-
  Load, Store, Add, Swap of the program's memory, told of every pointer and every address. Conditions: the pointer leads to a memory, or is nil.
-/
import Derived.Test.YtfdfjibhbfdloaaRel
namespace Go.Proofs.Ytfdfjibhbfdloaa
open Go.RowKit Go.Sept

/-- Where an address is of a memory's words, the memory is there. -/
theorem holds_pos {tm : TypeId} {w : World} {v : Value} {p q : Nat} {xs : List Int} {n : Nat} (h : Holds tm w v p q xs) (hn : n < xs.length) : v = .pointer (some ⟨p, 0, none⟩) ∧ MemIs tm w p q xs := by
  rcases h with h | ⟨rfl, _⟩ | ⟨rfl, _⟩
  · exact h
  · simp at hn
  · simp at hn

theorem load_rel (w : World) (v : Value) (p q : Nat) (xs : List Int) (h : Holds 74 w v p q xs) (a : Int) :
    Calls Try.prog 27 #[v, .int .i64 a] w fun e w' => e = .returned (.tuple #[.int .i64 (valA xs a), .int .i64 (errA xs a)]) ∧ w' = w := by
  rcases okA_cases xs a with ⟨ho, hr⟩ | ⟨ho, n, rfl, hn⟩
  · simp only [valA, errA, ho]
    exact load_no w v _ ⟨p, q, xs, h, rfl⟩ a hr
  · obtain ⟨rfl, hm⟩ := holds_pos h hn
    simp only [valA, errA, ho, Int.toNat_natCast]
    exact load_yes w p q xs hm n hn

theorem sto_rel (w : World) (v : Value) (p q : Nat) (xs : List Int) (h : Holds 74 w v p q xs) (a x : Int) :
    Calls Try.prog 24 #[v, .int .i64 a, .int .i64 x] w fun e w' => e = .returned (.int .i64 (errA xs a)) ∧ Holds 74 w' v p q (setA xs a x) ∧ Only (· = q) w w' := by
  rcases okA_cases xs a with ⟨ho, hr⟩ | ⟨ho, n, rfl, hn⟩
  · refine (store_no w v _ ⟨p, q, xs, h, rfl⟩ a x hr).mono ?_
    rintro e w' ⟨rfl, rfl⟩
    simp only [setA, errA, ho]
    exact ⟨rfl, h, Only.refl _ _⟩
  · obtain ⟨rfl, hm⟩ := holds_pos h hn
    refine (store_rel w p q xs hm n hn x).mono ?_
    rintro e w' ⟨rfl, hm', ho'⟩
    simp only [setA, errA, ho, Int.toNat_natCast]
    exact ⟨rfl, .inl ⟨rfl, hm'⟩, ho'⟩

theorem add_rel (w : World) (v : Value) (p q : Nat) (xs : List Int) (h : Holds 74 w v p q xs) (a x : Int) :
    Calls Try.prog 48 #[v, .int .i64 a, .int .i64 x] w fun e w' => e = .returned (.tuple #[.int .i64 (valA xs a), .int .i64 (errA xs a)]) ∧ Holds 74 w' v p q (setA xs a (wrap64 (valA xs a + x))) ∧ Only (· = q) w w' := by
  rcases okA_cases xs a with ⟨ho, hr⟩ | ⟨ho, n, rfl, hn⟩
  · refine (add_no w v _ ⟨p, q, xs, h, rfl⟩ a x hr).mono ?_
    rintro e w' ⟨rfl, rfl⟩
    simp only [setA, valA, errA, ho]
    exact ⟨rfl, h, Only.refl _ _⟩
  · obtain ⟨rfl, hm⟩ := holds_pos h hn
    refine (add_yes w p q xs hm n hn x).mono ?_
    rintro e w' ⟨rfl, rfl⟩
    simp only [setA, valA, errA, ho, Int.toNat_natCast]
    exact ⟨rfl, .inl ⟨rfl, hm.set _ _⟩, (Only.refl (· = q) w).setCell (p := ⟨q, n, none⟩) (.inr rfl) _⟩

theorem swap_rel (w : World) (v : Value) (p q : Nat) (xs : List Int) (h : Holds 74 w v p q xs) (a x y : Int) :
    Calls Try.prog 49 #[v, .int .i64 a, .int .i64 x, .int .i64 y] w fun e w' => e = .returned (.tuple #[.bool (hitA xs a x), .int .i64 (errA xs a)]) ∧ Holds 74 w' v p q (swapA xs a x y) ∧ Only (· = q) w w' := by
  rcases okA_cases xs a with ⟨ho, hr⟩ | ⟨ho, n, rfl, hn⟩
  · refine (swap_no w v _ ⟨p, q, xs, h, rfl⟩ a x y hr).mono ?_
    rintro e w' ⟨rfl, rfl⟩
    simp only [swapA, hitA, errA, ho, Bool.false_and]
    exact ⟨rfl, h, Only.refl _ _⟩
  · obtain ⟨rfl, hm⟩ := holds_pos h hn
    by_cases hx : xs.getD n 0 = x
    · refine (swap_hit w p q xs hm n hn x y hx).mono ?_
      rintro e w' ⟨rfl, rfl⟩
      have e1 : hitA xs (n : Int) x = true := by simp only [hitA, ho, Int.toNat_natCast, hx, Bool.true_and, beq_self_eq_true]
      rw [swapA, if_pos e1, setA, if_pos ho, errA, if_pos ho, e1, Int.toNat_natCast]
      exact ⟨rfl, .inl ⟨rfl, hm.set _ _⟩, (Only.refl (· = q) w).setCell (p := ⟨q, n, none⟩) (.inr rfl) _⟩
    · refine (swap_miss w p q xs hm n hn x y hx).mono ?_
      rintro e w' ⟨rfl, rfl⟩
      have e1 : hitA xs (n : Int) x = false := by
        simp only [hitA, ho, Int.toNat_natCast, Bool.true_and]
        exact beq_eq_false_iff_ne.2 hx
      rw [swapA, e1, errA, if_pos ho]
      exact ⟨rfl, .inl ⟨rfl, hm⟩, Only.refl _ _⟩
end Go.Proofs.Ytfdfjibhbfdloaa
