/-
  septumref11: wrong and Valid answer as the plain mathematics. Conditions: none.
-/
import Derived.Test.YtapmakdklpbjkaaRef11b
namespace Go.Sept
section
variable {c : Cf}
theorem wrong_1 (h : c.parts.length < 1 ∨ 4 < c.parts.length) : wrongW c = 1 := if_pos h
variable (h1 : ¬ (c.parts.length < 1 ∨ 4 < c.parts.length))
include h1
theorem wrong_2 (h : firstW c.parts ≠ 0) : wrongW c = firstW c.parts := by rw [wrongW, if_neg h1, if_pos h]
variable (h2 : firstW c.parts = 0)
include h2
theorem wrong_6 (h : c.wins.length < 1 ∨ 16 < c.wins.length) : wrongW c = 6 := by rw [wrongW, if_neg h1, if_neg (fun e => e h2), if_pos h]
variable (h6 : ¬ (c.wins.length < 1 ∨ 16 < c.wins.length))
include h6
theorem wrong_7 (h : c.wins.all (winOk c.parts.length) = false) : wrongW c = 7 := by rw [wrongW, if_neg h1, if_neg (fun e => e h2), if_neg h6, if_pos h]
variable (h7 : c.wins.all (winOk c.parts.length) = true)
include h7
theorem wrong_8 (h : (List.range c.parts.length).all (hasWin c.wins) = false) : wrongW c = 8 := by rw [wrongW, if_neg h1, if_neg (fun e => e h2), if_neg h6, if_neg (by rw [h7]; decide), if_pos h]
variable (h8 : (List.range c.parts.length).all (hasWin c.wins) = true)
include h8
theorem wrong_9 (h : 8 < c.chans.length) : wrongW c = 9 := by rw [wrongW, if_neg h1, if_neg (fun e => e h2), if_neg h6, if_neg (by rw [h7]; decide), if_neg (by rw [h8]; decide), if_pos h]
theorem wrong_10 (h : ¬ 8 < c.chans.length) : wrongW c = chansW c.parts [] c.chans := by rw [wrongW, if_neg h1, if_neg (fun e => e h2), if_neg h6, if_neg (by rw [h7]; decide), if_neg (by rw [h8]; decide), if_neg h]
end
theorem first_step {ps : List Pt} {j : Nat} {p : Pt} (h : ps[j]? = some p) : firstW (ps.drop j) = if partW p ≠ 0 then partW p else firstW (ps.drop (j + 1)) := by rw [drop_of h, firstW]
theorem first_end {ps : List Pt} {j : Nat} (h : ps.length ≤ j) : firstW (ps.drop j) = 0 := by rw [drop_end h, firstW]
section
variable {ps : List Pt} {l : List Chn} {j : Nat} {x : Chn}
theorem chans_10 (h : l[j]? = some x) (hk : chOk ps x = false) : chansW ps (l.take j) (l.drop j) = 10 := by rw [drop_of h, chansW, if_pos hk]
theorem chans_11 (h : l[j]? = some x) (hk : chOk ps x = true) (ha : (l.take j).any (clash x) = true) : chansW ps (l.take j) (l.drop j) = 11 := by rw [drop_of h, chansW, if_neg (by rw [hk]; decide), if_pos ha]
theorem chans_next (h : l[j]? = some x) (hk : chOk ps x = true) (ha : (l.take j).any (clash x) = false) : chansW ps (l.take j) (l.drop j) = chansW ps (l.take (j + 1)) (l.drop (j + 1)) := by rw [drop_of h, chansW, if_neg (by rw [hk]; decide), if_neg (by rw [ha]; decide), take_of h]
theorem chans_end (h : l.length ≤ j) : chansW ps (l.take j) (l.drop j) = 0 := by rw [drop_end h]; cases l.take j <;> rfl
end
theorem range_get {n i x : Nat} (h : (List.range n)[i]? = some x) : x = i ∧ i < n := by
  obtain ⟨hi, he⟩ := List.getElem?_eq_some_iff.1 h
  simp at hi he
  exact ⟨he.symm, hi⟩
theorem get_range {n i : Nat} (h : i < n) : (List.range n)[i]? = some i := by
  rw [List.getElem?_eq_getElem (by simpa using h)]
  simp
theorem take_get {α : Type} {l : List α} {j i : Nat} {x : α} (h : (l.take j)[i]? = some x) : i < j ∧ l[i]? = some x := by
  rw [List.getElem?_take] at h
  split at h
  · exact ⟨by assumption, h⟩
  · cases h
theorem get_take {α : Type} {l : List α} {j i : Nat} {x : α} (hi : i < j) (h : l[i]? = some x) : (l.take j)[i]? = some x := by
  rw [List.getElem?_take, if_pos hi]
  exact h
end Go.Sept

namespace Go.Proofs.Ytapmakdklpbjkaa
open Go.RowKit Go.Sept

theorem cf_cells {W wr : World} {z : Nat} {v0 v1 v2 : Value} (hB : W.heap[z]? = some (cfO v0 v1 v2)) (ho : Only (fun _ => False) W wr) : wr.cell? ⟨z, 0, none⟩ = some v0 ∧ wr.cell? ⟨z, 1, none⟩ = some v1 ∧ wr.cell? ⟨z, 2, none⟩ = some v2 := by
  have hb := (ho.block z (lt_of_block hB) (fun h => h)).trans hB
  exact ⟨cell_of_block hb 0, cell_of_block hb 1, cell_of_block hb 2⟩

end Go.Proofs.Ytapmakdklpbjkaa
