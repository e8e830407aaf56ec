/-
  septumref01.Has, septumref01.Queue's Order, septumref13.Model's Best: as plain lists. Conditions: how many there are.
-/
import Derived.Test.YtabdlbmdbceemaaFresh11
import Derived.Test.YtabdlbmdbceemaaFew11
import Derived.Deep.LoopGhost
namespace Go.Sept
open Go.RowKit
/-- The sixteen lists of a queue that lies at a place. -/
def QIs (P : Nat → Prop) (w : World) (M o : Nat) (qs : Nat → List Int) : Prop := ∀ p, p < 16 → ∃ v, Cel w M (o + p) v ∧ SlOf P 1 intE w v (qs p)
theorem QIs.only {P S : Nat → Prop} {w w' : World} {M o : Nat} {qs : Nat → List Int} (h : QIs P w M o qs) (ho : Only S w w') (hM : ¬ S M) (hP : ∀ k, P k → ¬ S k) : QIs P w' M o qs := fun p hp => by
  obtain ⟨v, h1, h2⟩ := h p hp
  exact ⟨v, h1.only ho hM, h2.only (stay_int ho hP)⟩
/-- The first r lists, from the most urgent one on. -/
def ordN (qs : Nat → List Int) : Nat → List Int
  | 0 => []
  | r + 1 => ordN qs r ++ qs (15 - r)
theorem ordN_len (qs : Nat → List Int) {a b : Nat} (h : a ≤ b) : (ordN qs a).length ≤ (ordN qs b).length := by
  induction h with
  | refl => exact Nat.le_refl _
  | step _ ih => exact Nat.le_trans ih (by rw [ordN, List.length_append]; exact Nat.le_add_right _ _)
/-- The first n of them, but some. -/
def bestF (n : Int) (but : List Int) : List Int → List Int → List Int
  | out, [] => out
  | out, x :: r => bestF n but (if (out.length : Int) < n ∧ but.contains x = false then out ++ [x] else out) r
theorem bestF_drop {n : Int} {but out l : List Int} {j : Nat} {x : Int} (h : l[j]? = some x) : bestF n but out (l.drop j) = bestF n but (if (out.length : Int) < n ∧ but.contains x = false then out ++ [x] else out) (l.drop (j + 1)) := by
  obtain ⟨hi, he⟩ := List.getElem?_eq_some_iff.1 h
  rw [List.drop_eq_getElem_cons hi, he, bestF]
theorem bestF_end {n : Int} {but out l : List Int} {j : Nat} (h : l.length ≤ j) : bestF n but out (l.drop j) = out := by
  rw [List.drop_eq_nil_of_le h, bestF]
end Go.Sept
namespace Go.Proofs.Ytabdlbmdbceemaa
open Go.RowKit Go.Sept

theorem infoInt13 : (Try.prog.info? 3).map (fun i => (i.zero, i.size, i.bytes)) = some (some (.int .i64 0), 1, 8) := by kernel_rfl
theorem one_int13 (x : Int) : ∀ u ∈ [Value.int .i64 x], u.oneCell' = true := by
  intro u hu
  rw [List.mem_singleton] at hu
  subst hu
  rfl
/-- A slice of ints of its own. -/
def Own13 (w : World) (v : Value) (b : Nat) (xs : List Int) : Prop := Grow 3 1 w v b xs.length (xs.map (Value.int .i64))
theorem Own13.sl {w : World} {v : Value} {b : Nat} {xs : List Int} (h : Own13 w v b xs) (hb : ∀ x ∈ xs, -9223372036854775808 ≤ x ∧ x ≤ 9223372036854775807) : SlOf (fun k => k = b) 1 intE w v xs := by
  obtain ⟨ao, cap, hv, hc, hm⟩ := Grow.shape h
  unfold maxLen at hm
  refine ⟨ao, cap, hv, ⟨hc, by omega⟩, b, 0, fun i x hx => ?_⟩
  have h0 : 0 < xs.length := Nat.lt_of_le_of_lt (Nat.zero_le _) (List.getElem?_eq_some_iff.1 hx).1
  obtain ⟨cap', hv', _, _, hcs⟩ := Grow.cells h h0
  rw [hv] at hv'
  injection hv' with h1 _ _
  refine ⟨h1, rfl, ?_, hb x (List.mem_of_getElem? hx)⟩
  rw [Nat.zero_add, Nat.mul_one]
  exact hcs i _ (by rw [List.getElem?_map, hx]; rfl)
theorem sl_bounds {P : Nat → Prop} {w : World} {v : Value} {xs : List Int} (h : SlOf P 1 intE w v xs) : ∀ x ∈ xs, -9223372036854775808 ≤ x ∧ x ≤ 9223372036854775807 := fun x hx => by
  obtain ⟨i, hi, he⟩ := List.getElem_of_mem hx
  obtain ⟨ao, cap, _, _, b, off, h3⟩ := h
  exact (h3 i x (by rw [List.getElem?_eq_getElem hi, he])).2.2.2

end Go.Proofs.Ytabdlbmdbceemaa
