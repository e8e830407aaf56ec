/-
  Load, Store, Add, Swap of the program's memory, told of every pointer and every address. Conditions: the pointer leads to a memory, or is nil.
-/
import Derived.Test.YtapmakdklpbjkaaRel
namespace Go.Proofs.Ytapmakdklpbjkaa
open Go.RowKit Go.Sept

/-- Where an address is of a memory's words, the memory is there. -/
theorem holds_pos {tm : TypeId} {w : World} {v : Value} {p q : Nat} {xs : List Int} {n : Nat} (h : Holds tm w v p q xs) (hn : n < xs.length) : v = .pointer (some ⟨p, 0, none⟩) ∧ MemIs tm w p q xs := by
  rcases h with h | ⟨rfl, _⟩ | ⟨rfl, _⟩
  · exact h
  · simp at hn
  · simp at hn

theorem load_rel (w : World) (v : Value) (p q : Nat) (xs : List Int) (h : Holds 77 w v p q xs) (a : Int) :
    Calls Try.prog 85 #[v, .int .i64 a] w fun e w' => e = .returned (.tuple #[.int .i64 (valA xs a), .int .i64 (errA xs a)]) ∧ w' = w := by
  rcases okA_cases xs a with ⟨ho, hr⟩ | ⟨ho, n, rfl, hn⟩
  · simp only [valA, errA, ho]
    exact load_no w v _ ⟨p, q, xs, h, rfl⟩ a hr
  · obtain ⟨rfl, hm⟩ := holds_pos h hn
    simp only [valA, errA, ho, Int.toNat_natCast]
    exact load_yes w p q xs hm n hn

theorem sto_rel (w : World) (v : Value) (p q : Nat) (xs : List Int) (h : Holds 77 w v p q xs) (a x : Int) :
    Calls Try.prog 63 #[v, .int .i64 a, .int .i64 x] w fun e w' => e = .returned (.int .i64 (errA xs a)) ∧ Holds 77 w' v p q (setA xs a x) ∧ Only (· = q) w w' := by
  rcases okA_cases xs a with ⟨ho, hr⟩ | ⟨ho, n, rfl, hn⟩
  · refine (store_no w v _ ⟨p, q, xs, h, rfl⟩ a x hr).mono ?_
    rintro e w' ⟨rfl, rfl⟩
    simp only [setA, errA, ho]
    exact ⟨rfl, h, Only.refl _ _⟩
  · obtain ⟨rfl, hm⟩ := holds_pos h hn
    refine (store_rel w p q xs hm n hn x).mono ?_
    rintro e w' ⟨rfl, hm', ho'⟩
    simp only [setA, errA, ho, Int.toNat_natCast]
    exact ⟨rfl, .inl ⟨rfl, hm'⟩, ho'⟩

end Go.Proofs.Ytapmakdklpbjkaa
