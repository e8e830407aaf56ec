/-
  septumref11: end and Frame answer as the plain mathematics. Conditions: none.
-/
import Derived.Test.YtapmakdklpbjkaaRef11
namespace Go.Proofs.Ytapmakdklpbjkaa
open Go.RowKit Go.Sept

theorem endOk_neg {ps : List Pt} {p o k : Int} (h : ¬ (0 ≤ p ∧ 0 ≤ o)) : endOk ps p o k = false := by
  rw [endOk, decide_eq_false h, Bool.false_and]
theorem endOk_part {ps : List Pt} {p o k : Int} (h : ps.length ≤ p.toNat) : endOk ps p o k = false := by
  rw [endOk, List.getElem?_eq_none h, Option.bind_none, Option.any_none, Bool.and_false]
theorem endOk_some {ps : List Pt} {p o : Nat} {k : Int} {x : Pt} (h : ps[p]? = some x) : endOk ps p o k = (x.obs[o]?).any fun y => decide (y.kind = k) := by
  rw [endOk, decide_eq_true ⟨by omega, by omega⟩, Bool.true_and, Int.toNat_natCast, Int.toNat_natCast, h, Option.bind_some]

theorem min_if (a : Int) : (if 2147483647 < a then 2147483647 else a) = min a 2147483647 := by
  rw [Int.min_def]
  split <;> split <;> omega
theorem frameW_drop {n : Int} {ws : List Win} {j : Nat} {x : Win} (h : ws[j]? = some x) : frameW n (ws.drop j) = frameW (if 1 ≤ x.ticks ∧ x.ticks ≤ 100 then min (n + x.ticks) 2147483647 else n) (ws.drop (j + 1)) := by
  rw [drop_of h, frameW]
theorem frameW_end {n : Int} {ws : List Win} {j : Nat} (h : ws.length ≤ j) : frameW n (ws.drop j) = n := by
  rw [drop_end h, frameW]

end Go.Proofs.Ytapmakdklpbjkaa
