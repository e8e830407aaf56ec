/-
  The same contracts, the world behind each call a variable of which it is told what it holds. Conditions: the memory is there (or is nil).
-/
import Derived.Test.YtonngcnlleoeoaaMake
namespace Go.Proofs.Ytonngcnlleoeoaa
open Go.RowKit Go.Sept

theorem new_rel (w : World) (n : Int) :
    Calls Try.prog 9 #[.int .i64 n] w fun e w' => ∃ p q, e = .returned (.pointer (some ⟨p, 0, none⟩)) ∧ MemIs 47 w' p q (List.replicate (clampN n) 0) ∧ w.heap.size ≤ p ∧ w.heap.size ≤ q ∧ Only (fun _ => False) w w' := by
  refine (new_any w n).mono ?_
  rintro e w' ⟨rfl, rfl⟩
  exact ⟨_, _, rfl, newWorld_mem _ _ _, Nat.le_succ _, Nat.le_refl _, newWorld_only _ _ _ _⟩

theorem store_rel (w : World) (p q : Nat) (xs : List Int) (h : MemIs 47 w p q xs) (a : Nat) (h1 : a < xs.length) (x : Int) :
    Calls Try.prog 15 #[.pointer (some ⟨p, 0, none⟩), .int .i64 a, .int .i64 x] w fun e w' => e = .returned (.int .i64 0) ∧ MemIs 47 w' p q (xs.set a x) ∧ Only (· = q) w w' := by
  refine (store_yes w p q xs h a h1 x).mono ?_
  rintro e w' ⟨rfl, rfl⟩
  exact ⟨rfl, h.set _ _, (Only.refl (· = q) w).setCell (p := ⟨q, a, none⟩) (.inr rfl) _⟩

/-- A slice value that holds just the numbers xs, in the row b. -/
structure SliceIs (w : World) (v : Value) (b : Nat) (xs : List Int) : Prop where
  shape : (xs = [] ∧ v = .slice none 0 0) ∨ (v = .slice (some ⟨b, 0, none⟩) xs.length xs.length)
  row : xs = [] ∨ RowIs w b xs

theorem SliceIs.only {w w' : World} {v : Value} {b : Nat} {xs : List Int} {S : Nat → Prop} (h : SliceIs w v b xs) (ho : Only S w w') (hb : ¬ S b) : SliceIs w' v b xs :=
  ⟨h.shape, by
    rcases h.row with h | h
    · exact .inl h
    · exact .inr (h.only ho hb)⟩

/-- Words, told of every memory. -/
theorem words_rel (w : World) (p q : Nat) (xs : List Int) (h : MemIs 47 w p q xs) (h1 : xs.length ≤ 4000) :
    Calls Try.prog 13 #[.pointer (some ⟨p, 0, none⟩)] w fun e w' => ∃ v b, e = .returned v ∧ SliceIs w' v b xs ∧ w.heap.size ≤ b ∧ Only (fun _ => False) w w' := by
  by_cases h0 : xs = []
  · subst h0
    refine (words_none w _ ⟨p, q, [], .inl ⟨rfl, h⟩, rfl⟩).mono ?_
    rintro e w' ⟨rfl, rfl⟩
    exact ⟨_, w'.heap.size, rfl, ⟨.inl ⟨rfl, rfl⟩, .inl rfl⟩, Nat.le_refl _, Only.refl _ _⟩
  · refine (words_some w p q xs h (List.length_pos_iff.2 h0) h1).mono ?_
    rintro e w' ⟨rfl, rfl⟩
    exact ⟨_, _, rfl, ⟨.inr rfl, .inr (copied_row _ _)⟩, Nat.le_refl _, copied_only _ _ _⟩

theorem words_rel_pos (w : World) (p q : Nat) (xs : List Int) (h : MemIs 47 w p q xs) (h0 : 0 < xs.length) (h1 : xs.length ≤ 4000) :
    Calls Try.prog 13 #[.pointer (some ⟨p, 0, none⟩)] w fun e w' => ∃ b, e = .returned (.slice (some ⟨b, 0, none⟩) xs.length xs.length) ∧ RowIs w' b xs ∧ w.heap.size ≤ b ∧ Only (fun _ => False) w w' := by
  refine (words_some w p q xs h h0 h1).mono ?_
  rintro e w' ⟨rfl, rfl⟩
  exact ⟨_, rfl, copied_row _ _, Nat.le_refl _, copied_only _ _ _⟩

theorem clamp_nat (k : Nat) (h : k ≤ 4000) : clampN (k : Int) = k := by unfold clampN; omega

set_option maxHeartbeats 400000 in
theorem awake_any (w : World) :
    Calls Try.prog 8 #[] w fun e w' => e = .returned (.bool true) ∧ Below w.heap.size w w' := by
  go_enter Try.func8, Try.ntmps8
  go_wp2_with fail
  refine (new_rel _ _).mono ?_
  rintro e w1 ⟨p, q, rfl, hm, hp, hq, ho1⟩
  rw [show clampN 2 = 2 from clamp_nat 2 (by decide)] at hm
  have hL : LenIs 47 w1 (.pointer (some ⟨p, 0, none⟩)) 2 := ⟨p, q, _, .inl ⟨rfl, hm⟩, rfl⟩
  go_wp2_with fail
  refine (len_any _ _ _ hL).mono ?_
  rintro e w1' ⟨rfl, rfl⟩
  go_wp2_with fail
  refine (store_rel _ _ _ _ hm 1 (by decide) 5).mono ?_
  rintro e w2 ⟨rfl, hm2, ho2⟩
  go_wp2_with fail
  refine (words_rel_pos _ _ _ _ hm2 (by decide) (by decide)).mono ?_
  rintro e w3 ⟨b, rfl, hr, hb, ho3⟩
  have hc : w3.cell? ⟨b, 1, none⟩ = some (.int .i64 5) := hr.cell 1 (by decide)
  have hO : Hid (Below w.heap.size w w3) := ((ho1.chain ho2 (fun i hi e => by omega)).chain ho3 (fun _ _ h => h)).below (Nat.le_refl _) (fun _ _ h => h)
  clear ho1 ho2 ho3 hr hm hm2 hL
  go_wp2
  go_ret
  exact ⟨rfl, hO⟩
end Go.Proofs.Ytonngcnlleoeoaa
