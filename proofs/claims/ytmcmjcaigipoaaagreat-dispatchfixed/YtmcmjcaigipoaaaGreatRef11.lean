/-
  septumref11: object, Part, end, Frame answer as the plain mathematics. Conditions: none.
-/
import Derived.Test.YtmcmjcaigipoaaaGreatPlain11
import Derived.Test.YtmcmjcaigipoaaaGreatFew11
import Derived.Test.YtmcmjcaigipoaaaGreatGrow
import Derived.Deep.LoopGhost
namespace Go.Proofs.YtmcmjcaigipoaaaGreat
open Go.RowKit Go.Sept

end Go.Proofs.YtmcmjcaigipoaaaGreat

/-
  septumref11: end and Frame answer as the plain mathematics. Conditions: none.
-/
namespace Go.Proofs.YtmcmjcaigipoaaaGreat
open Go.RowKit Go.Sept

theorem endOk_neg {ps : List Pt} {p o k : Int} (h : ¬ (0 ≤ p ∧ 0 ≤ o)) : endOk ps p o k = false := by
  rw [endOk, decide_eq_false h, Bool.false_and]
theorem endOk_part {ps : List Pt} {p o k : Int} (h : ps.length ≤ p.toNat) : endOk ps p o k = false := by
  rw [endOk, List.getElem?_eq_none h, Option.bind_none, Option.any_none, Bool.and_false]
theorem endOk_some {ps : List Pt} {p o : Nat} {k : Int} {x : Pt} (h : ps[p]? = some x) : endOk ps p o k = (x.obs[o]?).any fun y => decide (y.kind = k) := by
  rw [endOk, decide_eq_true ⟨by omega, by omega⟩, Bool.true_and, Int.toNat_natCast, Int.toNat_natCast, h, Option.bind_some]

theorem min_if (a : Int) : (if 2147483647 < a then 2147483647 else a) = min a 2147483647 := by
  rw [Int.min_def]
  split <;> split <;> omega
theorem frameW_drop {n : Int} {ws : List Win} {j : Nat} {x : Win} (h : ws[j]? = some x) : frameW n (ws.drop j) = frameW (if 1 ≤ x.ticks ∧ x.ticks ≤ 100 then min (n + x.ticks) 2147483647 else n) (ws.drop (j + 1)) := by
  rw [drop_of h, frameW]
theorem frameW_end {n : Int} {ws : List Win} {j : Nat} (h : ws.length ≤ j) : frameW n (ws.drop j) = n := by
  rw [drop_end h, frameW]

end Go.Proofs.YtmcmjcaigipoaaaGreat

/-
  septumref11: wrong and Valid answer as the plain mathematics. Conditions: none.
-/
namespace Go.Sept
section
variable {c : Cf}
theorem wrong_1 (h : c.parts.length < 1 ∨ 4 < c.parts.length) : wrongW c = 1 := if_pos h
theorem wrong_2 (h1 : ¬ (c.parts.length < 1 ∨ 4 < c.parts.length)) (h : firstW c.parts ≠ 0) : wrongW c = firstW c.parts := by rw [wrongW, if_neg h1, if_pos h]
theorem wrong_6 (h1 : ¬ (c.parts.length < 1 ∨ 4 < c.parts.length)) (h2 : firstW c.parts = 0) (h : c.wins.length < 1 ∨ 16 < c.wins.length) : wrongW c = 6 := by rw [wrongW, if_neg h1, if_neg (fun e => e h2), if_pos h]
theorem wrong_7 (h1 : ¬ (c.parts.length < 1 ∨ 4 < c.parts.length)) (h2 : firstW c.parts = 0) (h6 : ¬ (c.wins.length < 1 ∨ 16 < c.wins.length)) (h : c.wins.all (winOk c.parts.length) = false) : wrongW c = 7 := by rw [wrongW, if_neg h1, if_neg (fun e => e h2), if_neg h6, if_pos h]
theorem wrong_8 (h1 : ¬ (c.parts.length < 1 ∨ 4 < c.parts.length)) (h2 : firstW c.parts = 0) (h6 : ¬ (c.wins.length < 1 ∨ 16 < c.wins.length)) (h7 : c.wins.all (winOk c.parts.length) = true) (h : (List.range c.parts.length).all (hasWin c.wins) = false) : wrongW c = 8 := by rw [wrongW, if_neg h1, if_neg (fun e => e h2), if_neg h6, if_neg (by rw [h7]; decide), if_pos h]
theorem wrong_9 (h1 : ¬ (c.parts.length < 1 ∨ 4 < c.parts.length)) (h2 : firstW c.parts = 0) (h6 : ¬ (c.wins.length < 1 ∨ 16 < c.wins.length)) (h7 : c.wins.all (winOk c.parts.length) = true) (h8 : (List.range c.parts.length).all (hasWin c.wins) = true) (h : 8 < c.chans.length) : wrongW c = 9 := by rw [wrongW, if_neg h1, if_neg (fun e => e h2), if_neg h6, if_neg (by rw [h7]; decide), if_neg (by rw [h8]; decide), if_pos h]
theorem wrong_10 (h1 : ¬ (c.parts.length < 1 ∨ 4 < c.parts.length)) (h2 : firstW c.parts = 0) (h6 : ¬ (c.wins.length < 1 ∨ 16 < c.wins.length)) (h7 : c.wins.all (winOk c.parts.length) = true) (h8 : (List.range c.parts.length).all (hasWin c.wins) = true) (h : ¬ 8 < c.chans.length) : wrongW c = chansW c.parts [] c.chans := by rw [wrongW, if_neg h1, if_neg (fun e => e h2), if_neg h6, if_neg (by rw [h7]; decide), if_neg (by rw [h8]; decide), if_neg h]
end
theorem first_step {ps : List Pt} {j : Nat} {p : Pt} (h : ps[j]? = some p) : firstW (ps.drop j) = if partW p ≠ 0 then partW p else firstW (ps.drop (j + 1)) := by rw [drop_of h, firstW]
theorem first_end {ps : List Pt} {j : Nat} (h : ps.length ≤ j) : firstW (ps.drop j) = 0 := by rw [drop_end h, firstW]
section
variable {ps : List Pt} {l : List Chn} {j : Nat} {x : Chn}
theorem chans_10 (h : l[j]? = some x) (hk : chOk ps x = false) : chansW ps (l.take j) (l.drop j) = 10 := by rw [drop_of h, chansW, if_pos hk]
theorem chans_11 (h : l[j]? = some x) (hk : chOk ps x = true) (ha : (l.take j).any (clash x) = true) : chansW ps (l.take j) (l.drop j) = 11 := by rw [drop_of h, chansW, if_neg (by rw [hk]; decide), if_pos ha]
theorem chans_next (h : l[j]? = some x) (hk : chOk ps x = true) (ha : (l.take j).any (clash x) = false) : chansW ps (l.take j) (l.drop j) = chansW ps (l.take (j + 1)) (l.drop (j + 1)) := by rw [drop_of h, chansW, if_neg (by rw [hk]; decide), if_neg (by rw [ha]; decide), take_of h]
theorem chans_end (h : l.length ≤ j) : chansW ps (l.take j) (l.drop j) = 0 := by rw [drop_end h]; cases l.take j <;> rfl
end
theorem range_get {n i x : Nat} (h : (List.range n)[i]? = some x) : x = i ∧ i < n := by
  obtain ⟨hi, he⟩ := List.getElem?_eq_some_iff.1 h
  simp at hi he
  exact ⟨he.symm, hi⟩
theorem get_range {n i : Nat} (h : i < n) : (List.range n)[i]? = some i := by
  rw [List.getElem?_eq_getElem (by simpa using h)]
  simp
theorem take_get {α : Type} {l : List α} {j i : Nat} {x : α} (h : (l.take j)[i]? = some x) : i < j ∧ l[i]? = some x := by
  rw [List.getElem?_take] at h
  split at h
  · exact ⟨by assumption, h⟩
  · cases h
theorem get_take {α : Type} {l : List α} {j i : Nat} {x : α} (hi : i < j) (h : l[i]? = some x) : (l.take j)[i]? = some x := by
  rw [List.getElem?_take, if_pos hi]
  exact h
end Go.Sept

namespace Go.Proofs.YtmcmjcaigipoaaaGreat
open Go.RowKit Go.Sept

theorem cf_cells {W wr : World} {z : Nat} {v0 v1 v2 : Value} (hB : W.heap[z]? = some (cfO v0 v1 v2)) (ho : Only (fun _ => False) W wr) : wr.cell? ⟨z, 0, none⟩ = some v0 ∧ wr.cell? ⟨z, 1, none⟩ = some v1 ∧ wr.cell? ⟨z, 2, none⟩ = some v2 := by
  have hb := (ho.block z (lt_of_block hB) (fun h => h)).trans hB
  exact ⟨cell_of_block hb 0, cell_of_block hb 1, cell_of_block hb 2⟩

end Go.Proofs.YtmcmjcaigipoaaaGreat

/-
  septumref11: Valid, has and Leads. Conditions: none.
-/
namespace Go.Proofs.YtmcmjcaigipoaaaGreat
open Go.RowKit Go.Sept

/-- What Valid answers. -/
def errW (n : Int) : Int := if n = 0 then 0 else 15
def validV (n : Int) : Value := .tuple #[.int .i64 n, .int .i64 (errW n)]

/-- A slice of ints that holds xs. -/
def IntsIs (w : World) (ao : Option Addr) (xs : List Int) : Prop := ∃ b off, ∀ i x, xs[i]? = some x → ao = some ⟨b, off, none⟩ ∧ w.cell? ⟨b, off + i, none⟩ = some (.int .i64 x)

end Go.Proofs.YtmcmjcaigipoaaaGreat
