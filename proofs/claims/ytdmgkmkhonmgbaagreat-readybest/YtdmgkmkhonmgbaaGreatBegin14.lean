/-
  septumref13.New: the model at its beginning, as states, priorities and lists. Conditions: a partition with which nothing is wrong.
-/
import Derived.Test.YtdmgkmkhonmgbaaGreatSim14
import Derived.Test.YtdmgkmkhonmgbaaGreatQueue13
import Derived.BigQuiet
namespace Go.Sept
open Go.RowKit
theorem thrsL_len (ths : List Th) : ∀ k, k ≤ ths.length → (thrsL ths k).length = k * 14 := by
  intro k
  induction k with
  | zero => intro _; rfl
  | succ k ih =>
    intro hk
    rw [thrsL_step (List.getElem?_eq_getElem (by omega)), List.length_append, ih (by omega)]
    show k * 14 + 14 = _
    omega
theorem thrsL_at (ths : List Th) {t : Nat} {x : Th} (hx : ths[t]? = some x) {i : Nat} (hi : i < 14) : ∀ k, t < k → k ≤ ths.length → (thrsL ths k)[t * 14 + i]? = (thrCs x.prio)[i]? := by
  intro k
  induction k with
  | zero => intro h; exact absurd h (Nat.not_lt_zero _)
  | succ k ih =>
    intro ht hk
    have hl := thrsL_len ths k (by omega)
    have hy : ths[k]? = some ths[k] := List.getElem?_eq_getElem (by omega)
    rw [thrsL_step hy]
    by_cases e : t = k
    · subst e
      rw [hy] at hx
      injection hx with hx
      rw [List.getElem?_append_right (by omega), hl, Nat.add_sub_cancel_left, hx]
    · rw [List.getElem?_append_left (by omega)]
      exact ih (by omega) (by omega)
end Go.Sept
namespace Go.Proofs.YtdmgkmkhonmgbaaGreat
open Go.RowKit Go.Sept
theorem mod14_new {w w' : World} {e : Ending} {p : Pt} (h : New14 w w' e p) (h1 : 1 ≤ p.ths.length) (h2 : p.ths.length ≤ 1000) (hpr : ∀ x ∈ p.ths, 0 ≤ x.prio ∧ x.prio ≤ 15) :
    ∃ M b cap, e = .returned (.pointer (some ⟨M, 0, none⟩)) ∧ w.heap.size ≤ M ∧ M < b ∧ Mods w.heap.size w' M b p.ths.length cap (sim0 p) := by
  obtain ⟨M, b, v, mo, rfl, k1, k2, k3, k4, k5, k6⟩ := h
  obtain ⟨cap, hv, c1, c2, hc⟩ := Grow.cells k5 (by omega)
  subst hv
  rcases k5.own.2 with ⟨hn, _⟩ | ⟨g, cap2, cur, hv, _, hg, _⟩
  · omega
  · injection hv with hv _ _
    injection hv with hv
    injection hv with hv _ _
    subst hv
    refine ⟨M, b, cap, rfl, k1, k2, ⟨mo, k3, k4⟩, ⟨c1, by unfold maxLen at c2; omega⟩, ⟨cur, hg, fun t ht => ?_⟩, k6, by omega, h2⟩
    have hx : p.ths[t]? = some p.ths[t] := List.getElem?_eq_getElem ht
    have h0 := hpr _ (List.getElem_mem ht)
    have e0 := thrsL_at p.ths hx (i := 0) (by decide) p.ths.length ht (Nat.le_refl _)
    have e2 := thrsL_at p.ths hx (i := 2) (by decide) p.ths.length ht (Nat.le_refl _)
    have f0 := hc _ _ e0
    have f2 := hc _ _ e2
    rw [cell_of_block hg] at f0 f2
    refine ⟨f0, f2.trans ?_⟩
    simp only [sim0, hx]
    congr 2
    omega
end Go.Proofs.YtdmgkmkhonmgbaaGreat

/-
  septumref01.Ints of two slices of the same ints answers true. Conditions: both are there.
-/
namespace Go.Proofs.YtdmgkmkhonmgbaaGreat
open Go.RowKit Go.Sept

set_option maxHeartbeats 1000000 in
theorem ints14 {P Q : Nat → Prop} (w : World) (v1 v2 : Value) (xs : List Int) (h1 : SlOf P 1 intE w v1 xs) (h2 : SlOf Q 1 intE w v2 xs) :
    Calls Tryz.prog 13 #[v1, v2] w fun e w' => e = .returned (.bool true) ∧ ∃ n, w' = w.drewN n := by
  obtain ⟨a1, c1, rfl, m1⟩ := h1.shape
  obtain ⟨a2, c2, rfl, m2⟩ := h2.shape
  obtain ⟨n, hn⟩ : ∃ n, xs.length = n := ⟨_, rfl⟩
  have HN := hid hn
  have H1 := hid h1
  have H2 := hid h2
  rw [hn] at m1 m2 H1 H2 ⊢
  clear h1 h2 hn
  have hne : ((n : Int) != (n : Int)) = false := by simp
  go_enter Tryz.func13, Tryz.ntmps13
  go_wp2_with fail
  go_loopw [13] (fun i wr => ∃ j : Nat, j ≤ n ∧ i = .int .i64 (j : Int) ∧ ∃ d, wr = w.drewN d) (fun i _ => n - (intOf i).toNat)
  case atStart => exact ⟨0, Nat.zero_le _, rfl, 0, rfl⟩
  case round =>
  obtain ⟨j, hj, rfl, d, rfl⟩ := hrel
  by_cases hlt : (j : Int) < (n : Int)
  · obtain ⟨b1, o1, rfl, _, x, hx, hc1⟩ := H1.out.get j (by rw [HN.out]; omega)
    obtain ⟨b2, o2, rfl, _, y, hy, hc2⟩ := H2.out.get j (by rw [HN.out]; omega)
    rw [hx] at hy
    injection hy with hy
    subst hy
    have e1 : (w.drewN d).cell? ⟨b1, o1 + j * 1, none⟩ = some (.int .i64 x) := hc1.1
    have e2 : (w.drewN d).cell? ⟨b2, o2 + j * 1, none⟩ = some (.int .i64 x) := hc2.1
    have g1 : w.cell? ⟨b1, o1 + j * 1, none⟩ = some (.int .i64 x) := hc1.1
    have g2 : w.cell? ⟨b2, o2 + j * 1, none⟩ = some (.int .i64 x) := hc2.1
    rw [Nat.mul_one] at e1 e2 g1 g2
    clear hx hc1 hc2 H1 H2 hne
    go_wp2_with fail
    go_quiet (fail)
    go_wp2_with fail
    go_roundw
    case rel => exact ⟨j + 1, by omega, by go_num, _, rfl⟩
    case measure => simp [intOf]; omega
  · go_wp2_with fail
    go_ret
    exact ⟨rfl, _, rfl⟩
end Go.Proofs.YtdmgkmkhonmgbaaGreat
