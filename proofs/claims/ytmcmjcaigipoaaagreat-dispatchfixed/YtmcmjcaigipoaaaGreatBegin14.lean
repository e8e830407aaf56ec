/-
  septumref13.New: the model at its beginning, as states, priorities and lists. Conditions: a partition with which nothing is wrong.
-/
import Derived.Test.YtmcmjcaigipoaaaGreatSim14
import Derived.Test.YtmcmjcaigipoaaaGreatQueue13
import Derived.BigQuiet
namespace Go.Sept
open Go.RowKit
theorem thrsL_len (ths : List Th) : ∀ k, k ≤ ths.length → (thrsL ths k).length = k * 14 := by
  intro k
  induction k with
  | zero => intro _; rfl
  | succ k ih =>
    intro hk
    rw [thrsL_step (List.getElem?_eq_getElem (by omega)), List.length_append, ih (by omega)]
    show k * 14 + 14 = _
    omega
theorem thrsL_at (ths : List Th) {t : Nat} {x : Th} (hx : ths[t]? = some x) {i : Nat} (hi : i < 14) : ∀ k, t < k → k ≤ ths.length → (thrsL ths k)[t * 14 + i]? = (thrCs x.prio)[i]? := by
  intro k
  induction k with
  | zero => intro h; exact absurd h (Nat.not_lt_zero _)
  | succ k ih =>
    intro ht hk
    have hl := thrsL_len ths k (by omega)
    have hy : ths[k]? = some ths[k] := List.getElem?_eq_getElem (by omega)
    rw [thrsL_step hy]
    by_cases e : t = k
    · subst e
      rw [hy] at hx
      injection hx with hx
      rw [List.getElem?_append_right (by omega), hl, Nat.add_sub_cancel_left, hx]
    · rw [List.getElem?_append_left (by omega)]
      exact ih (by omega) (by omega)
end Go.Sept
namespace Go.Proofs.YtmcmjcaigipoaaaGreat
open Go.RowKit Go.Sept
theorem mod14_new {w w' : World} {e : Ending} {p : Pt} (h : New14 w w' e p) (h1 : 1 ≤ p.ths.length) (h2 : p.ths.length ≤ 1000) (hpr : ∀ x ∈ p.ths, 0 ≤ x.prio ∧ x.prio ≤ 15) :
    ∃ M b cap R, e = .returned (.pointer (some ⟨M, 0, none⟩)) ∧ w.heap.size ≤ M ∧ M < b ∧ Mods R w.heap.size w' M b p.ths.length cap (sim0 p) ∧ ∀ (t : Nat) (x : Th) (i : Nat), p.ths[t]? = some x → i < 14 → R (t * 14 + i) = (thrCs x.prio)[i]? := by
  obtain ⟨M, b, v, mo, rfl, k1, k2, k3, k4, k5, k6⟩ := h
  obtain ⟨cap, hv, c1, c2, hc⟩ := Grow.cells k5 (by omega)
  subst hv
  rcases k5.own.2 with ⟨hn, _⟩ | ⟨g, cap2, cur, hv, _, hg, _⟩
  · omega
  · injection hv with hv _ _
    injection hv with hv
    injection hv with hv _ _
    subst hv
    refine ⟨M, b, cap, fun j => cur[j]?, rfl, k1, k2, ⟨⟨mo, k3, k4⟩, ⟨c1, by unfold maxLen at c2; omega⟩, ⟨cur, hg, fun t ht => ?_⟩, k6, by omega, h2, fun cs2 h9 j _ => ?_⟩, fun t x i hx hi => ?_⟩
    · have hx : p.ths[t]? = some p.ths[t] := List.getElem?_eq_getElem ht
      have h0 := hpr _ (List.getElem_mem ht)
      have e0 := thrsL_at p.ths hx (i := 0) (by decide) p.ths.length ht (Nat.le_refl _)
      have e2 := thrsL_at p.ths hx (i := 2) (by decide) p.ths.length ht (Nat.le_refl _)
      have f0 := hc _ _ e0
      have f2 := hc _ _ e2
      rw [cell_of_block hg] at f0 f2
      refine ⟨f0, f2.trans ?_⟩
      simp only [sim0, hx]
      congr 2
      omega
    · rw [hg] at h9
      injection h9 with h9
      injection h9 with h9 _
      rw [← h9]
    · have ht : t < p.ths.length := (List.getElem?_eq_some_iff.1 hx).1
      have e0 := thrsL_at p.ths hx hi p.ths.length ht (Nat.le_refl _)
      have hi2 : i < (thrCs x.prio).length := hi
      rw [List.getElem?_eq_getElem hi2] at e0 ⊢
      have f0 := hc _ _ e0
      rw [cell_of_block hg] at f0
      exact f0
end Go.Proofs.YtmcmjcaigipoaaaGreat

/-
  septumref01.Ints of two slices of the same ints answers true. Conditions: both are there.
-/
namespace Go.Proofs.YtmcmjcaigipoaaaGreat
open Go.RowKit Go.Sept

end Go.Proofs.YtmcmjcaigipoaaaGreat
