/-
  septumref01.Words of two slices that see the same numbers answers true. Conditions: both are there.
-/
import Derived.Test.YtabdlbmdbceemaaSeq
import Derived.BigQuiet
namespace Go.Sept
open Go.RowKit
theorem SeesOf.cells {κ : IntKind} {w : World} {ta : Option Addr} {l : List Int} {b : Nat} (h : SeesOf κ w ta l b) : ∃ off : Nat, ∀ i, i < l.length → ta = some ⟨b, off, none⟩ ∧ w.cell? ⟨b, off + i, none⟩ = some (.int κ (l.getD i 0)) := by
  rcases h with rfl | ⟨off, h1, h2⟩
  · exact ⟨0, fun i hi => absurd hi (Nat.not_lt_zero _)⟩
  · exact ⟨off, fun i hi => ⟨h1, h2 i hi⟩⟩
theorem RowIs.sees {w : World} {g : Nat} {l : List Int} (h : RowIs w g l) : Sees w (some ⟨g, 0, none⟩) l g :=
  .inr ⟨0, rfl, fun i hi => by rw [Nat.zero_add]; exact h.cell i hi⟩
end Go.Sept
namespace Go.Proofs.Ytabdlbmdbceemaa
open Go.RowKit Go.Sept

set_option maxHeartbeats 1000000 in
theorem same_words (w : World) (ao1 ao2 : Option Addr) (c1 c2 b1 b2 : Nat) (xs : List Int) (h1 : Sees w ao1 xs b1) (h2 : Sees w ao2 xs b2) (hx : xs.length ≤ 4000) :
    Calls Try.prog 21 #[.slice ao1 xs.length c1, .slice ao2 xs.length c2] w fun e w' => e = .returned (.bool true) ∧ ∃ n, w' = w.drewN n := by
  obtain ⟨o1, hc1⟩ := h1.cells
  obtain ⟨o2, hc2⟩ := h2.cells
  have H1 := hid hc1
  have H2 := hid hc2
  clear hc1 hc2 h1 h2
  have hne : ((xs.length : Int) != (xs.length : Int)) = false := by simp
  go_enter Try.func21, Try.ntmps21
  go_wp2
  go_loopw [13] (fun i wr => ∃ j : Nat, j ≤ xs.length ∧ i = .int .i64 j ∧ ∃ n, wr = w.drewN n) (fun i _ => xs.length - (intOf i).toNat)
  case atStart => exact ⟨0, Nat.zero_le _, rfl, 0, rfl⟩
  case round =>
    obtain ⟨j, hj, rfl, n, rfl⟩ := hrel
    by_cases hlt : j < xs.length
    · obtain ⟨rfl, hc1⟩ := H1.out j hlt
      obtain ⟨rfl, hc2⟩ := H2.out j hlt
      obtain ⟨u, hu⟩ : ∃ u, u = xs.getD j 0 := ⟨_, rfl⟩
      rw [← hu] at hc1 hc2
      clear H1 H2 hu
      have hlt' : (j : Int) < xs.length := by omega
      have hd1 : (w.drewN n).cell? ⟨b1, o1 + j, none⟩ = some (.int .i64 u) := hc1
      have hd2 : (w.drewN n).cell? ⟨b2, o2 + j, none⟩ = some (.int .i64 u) := hc2
      go_wp2_with fail
      go_quiet (fail)
      go_wp2
      go_roundw
      case rel => exact ⟨j + 1, by omega, by go_num, _, rfl⟩
      case measure => simp [intOf]; omega
    · clear H1 H2
      go_wp2
      go_ret
      exact ⟨rfl, _, rfl⟩
end Go.Proofs.Ytabdlbmdbceemaa
