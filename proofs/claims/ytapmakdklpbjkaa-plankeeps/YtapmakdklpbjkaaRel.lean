/-
  The same contracts, the world behind each call a variable of which it is told what it holds. Conditions: the memory is there (or is nil).
-/
import Derived.Test.YtapmakdklpbjkaaMake
namespace Go.Proofs.Ytapmakdklpbjkaa
open Go.RowKit Go.Sept

theorem new_rel (w : World) (n : Int) :
    Calls Try.prog 20 #[.int .i64 n] w fun e w' => ∃ p q, e = .returned (.pointer (some ⟨p, 0, none⟩)) ∧ MemIs 77 w' p q (List.replicate (clampN n) 0) ∧ w.heap.size ≤ p ∧ w.heap.size ≤ q ∧ Only (fun _ => False) w w' := by
  refine (new_any w n).mono ?_
  rintro e w' ⟨rfl, rfl⟩
  exact ⟨_, _, rfl, newWorld_mem _ _ _, Nat.le_succ _, Nat.le_refl _, newWorld_only _ _ _ _⟩

theorem store_rel (w : World) (p q : Nat) (xs : List Int) (h : MemIs 77 w p q xs) (a : Nat) (h1 : a < xs.length) (x : Int) :
    Calls Try.prog 63 #[.pointer (some ⟨p, 0, none⟩), .int .i64 a, .int .i64 x] w fun e w' => e = .returned (.int .i64 0) ∧ MemIs 77 w' p q (xs.set a x) ∧ Only (· = q) w w' := by
  refine (store_yes w p q xs h a h1 x).mono ?_
  rintro e w' ⟨rfl, rfl⟩
  exact ⟨rfl, h.set _ _, (Only.refl (· = q) w).setCell (p := ⟨q, a, none⟩) (.inr rfl) _⟩

/-- A slice value that holds just the numbers xs, in the row b. -/
structure SliceIs (w : World) (v : Value) (b : Nat) (xs : List Int) : Prop where
  shape : (xs = [] ∧ v = .slice none 0 0) ∨ (v = .slice (some ⟨b, 0, none⟩) xs.length xs.length)
  row : xs = [] ∨ RowIs w b xs

theorem SliceIs.only {w w' : World} {v : Value} {b : Nat} {xs : List Int} {S : Nat → Prop} (h : SliceIs w v b xs) (ho : Only S w w') (hb : ¬ S b) : SliceIs w' v b xs :=
  ⟨h.shape, by
    rcases h.row with h | h
    · exact .inl h
    · exact .inr (h.only ho hb)⟩

/-- Words, told of every memory. -/
theorem words_rel (w : World) (p q : Nat) (xs : List Int) (h : MemIs 77 w p q xs) (h1 : xs.length ≤ 4000) :
    Calls Try.prog 13 #[.pointer (some ⟨p, 0, none⟩)] w fun e w' => ∃ v b, e = .returned v ∧ SliceIs w' v b xs ∧ w.heap.size ≤ b ∧ Only (fun _ => False) w w' := by
  by_cases h0 : xs = []
  · subst h0
    refine (words_none w _ ⟨p, q, [], .inl ⟨rfl, h⟩, rfl⟩).mono ?_
    rintro e w' ⟨rfl, rfl⟩
    exact ⟨_, w'.heap.size, rfl, ⟨.inl ⟨rfl, rfl⟩, .inl rfl⟩, Nat.le_refl _, Only.refl _ _⟩
  · refine (words_some w p q xs h (List.length_pos_iff.2 h0) h1).mono ?_
    rintro e w' ⟨rfl, rfl⟩
    exact ⟨_, _, rfl, ⟨.inr rfl, .inr (copied_row _ _)⟩, Nat.le_refl _, copied_only _ _ _⟩

theorem words_rel_pos (w : World) (p q : Nat) (xs : List Int) (h : MemIs 77 w p q xs) (h0 : 0 < xs.length) (h1 : xs.length ≤ 4000) :
    Calls Try.prog 13 #[.pointer (some ⟨p, 0, none⟩)] w fun e w' => ∃ b, e = .returned (.slice (some ⟨b, 0, none⟩) xs.length xs.length) ∧ RowIs w' b xs ∧ w.heap.size ≤ b ∧ Only (fun _ => False) w w' := by
  refine (words_some w p q xs h h0 h1).mono ?_
  rintro e w' ⟨rfl, rfl⟩
  exact ⟨_, rfl, copied_row _ _, Nat.le_refl _, copied_only _ _ _⟩

theorem clamp_nat (k : Nat) (h : k ≤ 4000) : clampN (k : Int) = k := by unfold clampN; omega

end Go.Proofs.Ytapmakdklpbjkaa
