/-
  frame.Run with a body of septumlaw02; and how long both it and the plain accesses go on. Conditions: all of it lies in blocks that are not the same; at most 60 accesses.
-/
import Derived.Test.YtfdfjibhbfdloaaOpen2
namespace Go.Proofs.Ytfdfjibhbfdloaa
open Go.RowKit Go.Sept

/-- The log and the words behind k steps, the j-th one at the time j. -/
def playR (ins : List Ins) (ys : List Int) : Nat → List (Int × Int) × List Int
  | 0 => ([], ys)
  | k + 1 => if (ctlOf ins (playR ins ys k).1).i < ins.length then (nextLog ins (playR ins ys k).1 (playR ins ys k).2 (k : Int), nextWords ins (playR ins ys k).1 (playR ins ys k).2) else playR ins ys k
theorem playR_go {ins : List Ins} {ys : List Int} {k : Nat} (h : (ctlOf ins (playR ins ys k).1).i < ins.length) : playR ins ys (k + 1) = (nextLog ins (playR ins ys k).1 (playR ins ys k).2 (k : Int), nextWords ins (playR ins ys k).1 (playR ins ys k).2) := by rw [playR, if_pos h]
theorem playR_over {ins : List Ins} {ys : List Int} {k : Nat} (h : ¬ (ctlOf ins (playR ins ys k).1).i < ins.length) : playR ins ys (k + 1) = playR ins ys k := by rw [playR, if_neg h]
theorem playR_live (ins : List Ins) (ys : List Int) : ∀ k, Live ins (playR ins ys k).1
  | 0 => Live.nil _
  | k + 1 => by
    by_cases h : (ctlOf ins (playR ins ys k).1).i < ins.length
    · rw [playR_go h]
      exact live_next (playR_live ins ys k) h _ _
    · rw [playR_over h]
      exact playR_live ins ys k
theorem playR_words (ins : List Ins) (ys : List Int) : ∀ k, (playR ins ys k).2.length = ys.length
  | 0 => rfl
  | k + 1 => by
    by_cases h : (ctlOf ins (playR ins ys k).1).i < ins.length
    · rw [playR_go h]
      show (nextWords ins _ _).length = _
      rw [nextWords, length_aftA]
      exact playR_words ins ys k
    · rw [playR_over h]
      exact playR_words ins ys k
/-- None of the steps behind the first one, up to the k-th one, found the body done. -/
def Busy (ins : List Ins) (ys : List Int) (k : Nat) : Prop := ∀ t, 1 ≤ t → t ≤ k → overB ins (playR ins ys t).1 = false
theorem Busy.start {ins : List Ins} {ys : List Int} {k : Nat} (h : Busy ins ys k) (hk : 1 ≤ k) : ∀ t, t ≤ k → (ctlOf ins (playR ins ys t).1).i < ins.length
  | 0, _ => by
    have h1 := over_no (h 1 (Nat.le_refl _) hk)
    show 0 < ins.length
    omega
  | t + 1, ht => over_no (h (t + 1) (by omega) ht)
theorem Busy.length {ins : List Ins} {ys : List Int} {k : Nat} (h : Busy ins ys k) : ∀ t, t ≤ k → (playR ins ys t).1.length = t
  | 0, _ => rfl
  | t + 1, ht => by
    rw [playR_go (h.start (by omega) t (by omega))]
    show (nextLog ins _ _ _).length = _
    rw [nextLog, List.length_append, Busy.length h t (by omega)]
    rfl
theorem Busy.le {ins : List Ins} {ys : List Int} {k : Nat} (h : Busy ins ys k) : k ≤ ins.length := by
  have h1 := h.length k (Nat.le_refl _)
  have h2 := (playR_live ins ys k).length_le
  omega
theorem Busy.zero (ins : List Ins) (ys : List Int) : Busy ins ys 0 := fun t h1 h2 => by omega
theorem Busy.succ {ins : List Ins} {ys : List Int} {k : Nat} (h : Busy ins ys k) (h1 : overB ins (playR ins ys (k + 1)).1 = false) : Busy ins ys (k + 1) := fun t a b => by
  by_cases e : t = k + 1
  · subst e; exact h1
  · exact h t a (by omega)

/-- How many steps are taken, at most most of them. -/
structure StopAt (ins : List Ins) (ys : List Int) (most : Int) (J : Nat) : Prop where
  none : most ≤ 0 → J = 0
  some : 0 < most → 1 ≤ J ∧ (J : Int) ≤ most ∧ Busy ins ys (J - 1) ∧ (overB ins (playR ins ys J).1 = true ∨ (J : Int) = most)
theorem StopAt.unique {ins : List Ins} {ys : List Int} {most : Int} {J K : Nat} (h : StopAt ins ys most J) (k : StopAt ins ys most K) : J = K := by
  by_cases hm : most ≤ 0
  · rw [h.none hm, k.none hm]
  · obtain ⟨h1, h2, h3, h4⟩ := h.some (by omega)
    obtain ⟨k1, k2, k3, k4⟩ := k.some (by omega)
    rcases Nat.lt_trichotomy J K with hl | hl | hl
    · rcases h4 with h4 | h4
      · have := k3 J h1 (by omega)
        rw [h4] at this
        cases this
      · omega
    · exact hl
    · rcases k4 with k4 | k4
      · have := h3 K k1 (by omega)
        rw [k4] at this
        cases this
      · omega

end Go.Proofs.Ytfdfjibhbfdloaa
