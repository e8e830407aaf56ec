/-
  A slice of numbers, as an argument of a law. Conditions: none; no program is named here.
-/
import Derived.Test.YtgoakjhjdoopkaaSeq
import Derived.Test.YtgoakjhjdoopkaaLift
import Derived.OpenShut
import Derived.ChangeSlices
import Derived.Lib.SmallJoins
namespace Go.Sept
open Go.RowKit Go.ChangeShapes Go.WideShapes Go.ChangeAt Go.Joins Go.Deep

theorem open_sees {H : Type} {enc : TypeId × Value → H} {P : Program} {W : World} {base : Nat} {held : Bool} {t e : TypeId} {κ : IntKind} {ta : Option Addr} {L tc : Nat} {d : DataW H} {p : List MemPlace} (ht : P.underlying t = some (.slice e)) (he : P.underlying e = some (.int κ)) (hc : P.cellsOf e = 1)
    (h : DataW.Trod enc P W base (fun _ => true) held t (.slice ta L tc) d p) : ∃ l b, l.length = L ∧ SeesOf κ W ta l b ∧ (∀ x ∈ l, (Lit.int κ x).wf = true) ∧ L ≤ 9223372036854775807 := by
  obtain ⟨fuel, hf⟩ := h
  rcases open_ints ht he hc hf with ⟨hcs, _⟩ | ⟨x, l, c, zs, hcs, _, hl, hm, hz, _, hcell, hwf⟩
  · simp [Value.cells] at hcs
    obtain ⟨rfl, rfl, rfl⟩ := hcs
    exact ⟨[], 0, rfl, .inl rfl, (fun x hx => by cases hx), by omega⟩
  · simp [Value.cells] at hcs
    obtain ⟨rfl, rfl, rfl⟩ := hcs
    unfold maxLen at hm
    have hz' : zs.length = tc := by simpa using hz
    obtain ⟨b, off, spot⟩ := x
    refine ⟨zs.take L, b, by rw [List.length_take]; omega, ?_, fun x hx => hwf x (List.mem_of_mem_take hx), by omega⟩
    by_cases h0 : L = 0
    · exact .inl (by rw [h0, List.take_zero])
    · have hspot : spot = none := by
        have hc0 := hcell 0 (by omega)
        simpa [Addr.add] using World.cell?_spot hc0
      subst hspot
      refine .inr ⟨off, rfl, fun i hi => ?_⟩
      rw [List.length_take] at hi
      have hci := hcell i (by omega)
      have e9 : Addr.add ⟨b, off, none⟩ i = ⟨b, off + i, none⟩ := by simp only [Addr.add]; split <;> simp_all
      rw [e9] at hci
      rw [hci, List.getD_eq_getElem?_getD, List.getD_eq_getElem?_getD, List.getElem?_take, if_pos (by omega)]
end Go.Sept
