/-
  septumref01.Words holds two lists against each other: of two slices that hold the same numbers it answers true. Conditions: both slices hold them.
-/
import Derived.Test.YtfdfjibhbfdloaaRef
namespace Go.Proofs.Ytfdfjibhbfdloaa
open Go.RowKit Go.Sept


/-- What a walk wants of a slice that holds xs. -/
theorem sliceIs_parts {w : World} {v : Value} {b : Nat} {xs : List Int} (h : SliceIs w v b xs) :
    ∃ ao, v = .slice ao xs.length xs.length ∧ ∀ i, i < xs.length → ao = some ⟨b, 0, none⟩ ∧ w.cell? ⟨b, i, none⟩ = some (.int .i64 (xs.getD i 0)) := by
  rcases h.shape with ⟨rfl, rfl⟩ | rfl
  · exact ⟨none, rfl, fun i hi => by simp at hi⟩
  · refine ⟨_, rfl, fun i hi => ⟨rfl, ?_⟩⟩
    rcases h.row with rfl | hr
    · simp at hi
    · exact hr.cell i hi

set_option maxHeartbeats 1000000 in
theorem ref_words_same (w : World) (v1 v2 : Value) (b1 b2 : Nat) (xs : List Int) (h1 : SliceIs w v1 b1 xs) (h2 : SliceIs w v2 b2 xs) (hx : xs.length ≤ 4000) :
    Calls Try.prog 16 #[v1, v2] w fun e w' => e = .returned (.bool true) ∧ Only (fun _ => False) w w' := by
  obtain ⟨ao1, rfl, hc1⟩ := sliceIs_parts h1
  obtain ⟨ao2, rfl, hc2⟩ := sliceIs_parts h2
  clear h1 h2
  have H1 : Hid (∀ i, i < xs.length → ao1 = some ⟨b1, 0, none⟩ ∧ w.cell? ⟨b1, i, none⟩ = some (.int .i64 (xs.getD i 0))) := hc1
  have H2 : Hid (∀ i, i < xs.length → ao2 = some ⟨b2, 0, none⟩ ∧ w.cell? ⟨b2, i, none⟩ = some (.int .i64 (xs.getD i 0))) := hc2
  clear hc1 hc2
  have hne : ((xs.length : Int) != (xs.length : Int)) = false := by simp
  go_enter Try.func16, Try.ntmps16
  go_wp2
  go_loopw [13] (fun i wr => ∃ j : Nat, j ≤ xs.length ∧ i = .int .i64 j ∧ ∃ n, wr = w.drewN n) (fun i _ => xs.length - (intOf i).toNat)
  case atStart => exact ⟨0, Nat.zero_le _, rfl, 0, rfl⟩
  case round =>
    obtain ⟨j, hj, rfl, n, rfl⟩ := hrel
    by_cases hlt : j < xs.length
    · obtain ⟨rfl, hc1⟩ := H1.out j hlt
      obtain ⟨rfl, hc2⟩ := H2.out j hlt
      obtain ⟨u, hu⟩ : ∃ u, u = xs.getD j 0 := ⟨_, rfl⟩
      rw [← hu] at hc1 hc2
      clear H1 H2 hu
      have hlt' : (j : Int) < xs.length := by omega
      have hd1 : (w.drewN n).cell? ⟨b1, j, none⟩ = some (.int .i64 u) := hc1
      have hd2 : (w.drewN n).cell? ⟨b2, j, none⟩ = some (.int .i64 u) := hc2
      go_wp2_with fail
      go_quiet (fail)
      go_wp2
      go_roundw
      case rel => exact ⟨j + 1, by omega, by go_num, _, rfl⟩
      case measure => simp [intOf]; omega
    · clear H1 H2
      go_wp2
      go_ret
      exact ⟨rfl, only_drewN (Only.refl _ _) _⟩
end Go.Proofs.Ytfdfjibhbfdloaa
