/-
  The same contracts, the world behind each call a variable of which it is told what it holds. Conditions: the memory is there (or is nil).
-/
import Derived.Test.YtgoakjhjdoopkaaMake
namespace Go.Proofs.Ytgoakjhjdoopkaa
open Go.RowKit Go.Sept

theorem new_rel (w : World) (n : Int) :
    Calls Try.prog 6 #[.int .i64 n] w fun e w' => ∃ p q, e = .returned (.pointer (some ⟨p, 0, none⟩)) ∧ MemIs 38 w' p q (List.replicate (clampN n) 0) ∧ w.heap.size ≤ p ∧ w.heap.size ≤ q ∧ Only (fun _ => False) w w' := by
  refine (new_any w n).mono ?_
  rintro e w' ⟨rfl, rfl⟩
  exact ⟨_, _, rfl, newWorld_mem _ _ _, Nat.le_succ _, Nat.le_refl _, newWorld_only _ _ _ _⟩

/-- A slice value that holds just the numbers xs, in the row b. -/
structure SliceIs (w : World) (v : Value) (b : Nat) (xs : List Int) : Prop where
  shape : (xs = [] ∧ v = .slice none 0 0) ∨ (v = .slice (some ⟨b, 0, none⟩) xs.length xs.length)
  row : xs = [] ∨ RowIs w b xs

theorem SliceIs.only {w w' : World} {v : Value} {b : Nat} {xs : List Int} {S : Nat → Prop} (h : SliceIs w v b xs) (ho : Only S w w') (hb : ¬ S b) : SliceIs w' v b xs :=
  ⟨h.shape, by
    rcases h.row with h | h
    · exact .inl h
    · exact .inr (h.only ho hb)⟩

theorem clamp_nat (k : Nat) (h : k ≤ 4000) : clampN (k : Int) = k := by unfold clampN; omega

end Go.Proofs.Ytgoakjhjdoopkaa
