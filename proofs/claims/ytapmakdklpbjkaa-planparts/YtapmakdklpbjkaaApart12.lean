/-
  A plan's things share no word, as plain mathematics. Conditions: none; no program is named here.
-/
import Derived.Test.YtapmakdklpbjkaaThings12
namespace Go.Sept
open Go.RowKit
def hA (i : Nat) : Nat := [0, 2, 4, 3, 5, 6, 8, 41].getD i 0
def hN (i : Nat) : Nat := [2, 1, 1, 1, 1, 2, 33, 2].getD i 0
def atF (m i : Nat) : Nat := if i < 8 then hA i else if i = 8 then 43 else 43 + m + 24 * (i - 9)
def nF (m i : Nat) : Nat := if i < 8 then hN i else if i = 8 then m else 24
theorem heads_end : ∀ i : Fin 8, hA i + hN i ≤ 43 := by decide
theorem heads_apart : ∀ i j : Fin 8, i ≠ j → hA i + hN i ≤ hA j ∨ hA j + hN j ≤ hA i := by decide
theorem atF_apart (m i j : Nat) (h : j < i) : atF m j + nF m j ≤ atF m i ∨ atF m i + nF m i ≤ atF m j := by
  unfold atF nF
  by_cases hi : i < 8
  · have hj : j < 8 := by omega
    rw [if_pos hi, if_pos hj, if_pos hi, if_pos hj]
    exact heads_apart ⟨j, hj⟩ ⟨i, hi⟩ (fun e => by injection e with e; omega)
  · rw [if_neg hi, if_neg hi]
    by_cases hj : j < 8
    · rw [if_pos hj, if_pos hj]
      have h1 := heads_end ⟨j, hj⟩
      simp only at h1
      left
      split <;> omega
    · rw [if_neg hj, if_neg hj]
      left
      split <;> split <;> omega
theorem atF_end (n m i : Nat) (h : i < 9 + n + m) : atF m i + nF m i ≤ 43 + m + n * 24 + m * 24 := by
  unfold atF nF
  by_cases hi : i < 8
  · rw [if_pos hi, if_pos hi]
    have h1 := heads_end ⟨i, hi⟩
    simp only at h1
    omega
  · rw [if_neg hi, if_neg hi]
    split <;> omega
theorem nF_le (m i : Nat) (h : m ≤ 20) : nF m i ≤ 43 := by
  unfold nF
  by_cases hi : i < 8
  · rw [if_pos hi]
    have h1 := heads_end ⟨i, hi⟩
    simp only at h1
    omega
  · rw [if_neg hi]
    split <;> omega
theorem length_atL (n m : Nat) : (atL n m).length = 9 + n + m := by simp [atL, headAts, thAts, obAts, stepsL]; omega
theorem length_nL (n m : Nat) : (nL n m).length = 9 + n + m := by simp [nL, headNs]; omega
theorem headAts_at (i : Nat) (h : i < 9) (m : Nat) : headAts[i]? = some ((atF m i : Nat) : Int) := by
  match i, h with
  | 0, _ => rfl
  | 1, _ => rfl
  | 2, _ => rfl
  | 3, _ => rfl
  | 4, _ => rfl
  | 5, _ => rfl
  | 6, _ => rfl
  | 7, _ => rfl
  | 8, _ => rfl
theorem headNs_at (i : Nat) (h : i < 9) (m : Nat) : (headNs m)[i]? = some ((nF m i : Nat) : Int) := by
  match i, h with
  | 0, _ => rfl
  | 1, _ => rfl
  | 2, _ => rfl
  | 3, _ => rfl
  | 4, _ => rfl
  | 5, _ => rfl
  | 6, _ => rfl
  | 7, _ => rfl
  | 8, _ => rfl
theorem atL_at (n m i : Nat) (h : i < 9 + n + m) : (atL n m)[i]? = some ((atF m i : Nat) : Int) := by
  unfold atL
  have hl : headAts.length = 9 := rfl
  have hl2 : (thAts n m).length = n := length_stepsL _ _ _
  by_cases h9 : i < 9
  · rw [List.getElem?_append_left (by rw [List.length_append, hl]; omega), List.getElem?_append_left (by rw [hl]; exact h9)]
    exact headAts_at i h9 m
  · have e : ((atF m i : Nat) : Int) = 43 + (m : Int) + ((i - 9 : Nat) : Int) * 24 := by
      unfold atF
      rw [if_neg (by omega), if_neg (by omega)]
      omega
    rw [e]
    by_cases hn : i < 9 + n
    · rw [List.getElem?_append_left (by rw [List.length_append, hl, hl2]; omega), List.getElem?_append_right (by rw [hl]; omega), hl]
      exact stepsL_at _ _ _ _ (by omega)
    · rw [List.getElem?_append_right (by rw [List.length_append, hl, hl2]; omega), List.length_append, hl, hl2]
      unfold obAts
      rw [stepsL_at _ _ _ _ (show i - (9 + n) < m by omega)]
      congr 1
      omega
theorem nL_at (n m i : Nat) (h : i < 9 + n + m) : (nL n m)[i]? = some ((nF m i : Nat) : Int) := by
  unfold nL
  have hl : (headNs m).length = 9 := rfl
  by_cases h9 : i < 9
  · rw [List.getElem?_append_left (by rw [List.length_append, hl]; omega), List.getElem?_append_left (by rw [hl]; exact h9)]
    exact headNs_at i h9 m
  · have e : ((nF m i : Nat) : Int) = 24 := by
      unfold nF
      rw [if_neg (by omega), if_neg (by omega)]
      rfl
    rw [e, List.append_assoc, List.getElem?_append_right (by rw [hl]; omega), List.replicate_append_replicate, List.getElem?_replicate, if_pos (by omega)]
/-- The word a is one of those looked at. -/
def Cov (m i k a : Nat) : Prop := (∃ j, j < i ∧ atF m j ≤ a ∧ a < atF m j + nF m j) ∨ (atF m i ≤ a ∧ a < atF m i + k)
theorem cov_no {m i k : Nat} (hk : k < nF m i) : ¬ Cov m i k (atF m i + k) := by
  rintro (⟨j, hj, h1, h2⟩ | ⟨_, h2⟩)
  · have := atF_apart m i j hj
    omega
  · omega
theorem cov_step {m i k a : Nat} (h : Cov m i k a) : Cov m i (k + 1) a := by
  rcases h with h | ⟨h1, h2⟩
  · exact .inl h
  · exact .inr ⟨h1, by omega⟩
theorem cov_next {m i a : Nat} (h : Cov m i (nF m i) a) : Cov m (i + 1) 0 a := by
  rcases h with ⟨j, hj, h⟩ | h
  · exact .inl ⟨j, by omega, h⟩
  · exact .inl ⟨i, by omega, h⟩
end Go.Sept
