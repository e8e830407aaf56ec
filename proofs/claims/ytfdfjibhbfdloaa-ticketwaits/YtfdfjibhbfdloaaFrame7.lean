/-
  The frame's Mark, where there is an access ahead. Conditions: the frame is there.
-/
import Derived.Test.YtfdfjibhbfdloaaFrame6
namespace Go.Proofs.Ytfdfjibhbfdloaa
open Go.RowKit Go.Sept

set_option maxHeartbeats 1000000 in
theorem mark_some (w : World) (F lb : Nat) (s : FrSt) (h : FrameIs w F lb s) (hu : s.underway = true) (ha : s.asked ≠ 0) (hl : s.asked ≤ s.log.length) (hb : s.log.length ≤ 1000000) :
    Calls Try.prog 34 #[.pointer (some ⟨F, 0, none⟩)] w fun e w' => e = .returned (.tuple #[]) ∧ FrameIs w' F lb { s with mark := (s.log.getD (s.asked - 1) (0, 0)).2, marked := true } ∧ Only (· = F) w w' := by
  obtain ⟨hne0, lv, h1, h2⟩ := h
  obtain ⟨cap, rfl, hc1, hc2, hcell⟩ := h2.cells (by omega)
  have hO : Hid (∀ (w' : World) (t : Int), t = (s.log.getD (s.asked - 1) (0, 0)).2 → w'.heap = ((w.setCell ⟨F, 9, none⟩ (.int .i64 t)).setCell ⟨F, 10, none⟩ (.bool true)).heap → (w'.os = w.os ∧ w'.tape = w.tape ∧ w'.output = w.output) →
      FrameIs w' F lb { s with mark := (s.log.getD (s.asked - 1) (0, 0)).2, marked := true } ∧ Only (· = F) w w') := by
    rintro w' t rfl e1 e2
    have ho0 := ((Only.self F w).own 9 (.int .i64 (s.log.getD (s.asked - 1) (0, 0)).2)).own 10 (.bool true)
    have ho : Only (· = F) w w' := ⟨e2.1, e2.2.1, e2.2.2, by rw [e1]; exact ho0.size, fun k hk hs => by rw [e1]; exact ho0.block k hk hs⟩
    exact ⟨FrameAt.upd hne0 h1 h2 ho (by rw [e1]; exact blk10 (blk9 h1 _) true) rfl, ho⟩
  have c1 : w.cell? ⟨F, 1, none⟩ = some (.slice (some ⟨lb, 0, none⟩) s.log.length cap) := cell_of_block h1 1
  have c3 : w.cell? ⟨F, 3, none⟩ = some (.bool s.underway) := cell_of_block h1 3
  have c6 : w.cell? ⟨F, 6, none⟩ = some (.int .i64 (s.asked : Int)) := cell_of_block h1 6
  have c9 : w.cell? ⟨F, 9, none⟩ = some (.int .i64 s.mark) := cell_of_block h1 9
  have c10 : w.cell? ⟨F, 10, none⟩ = some (.bool s.marked) := cell_of_block h1 10
  have f9 : w.frozen? ⟨F, 9, none⟩ = false := frozen_of_block h1 9
  have f10 : w.frozen? ⟨F, 10, none⟩ = false := frozen_of_block h1 10
  have hx : w.cell? ⟨lb, (s.asked - 1) * 2 + 1, none⟩ = some (.int .i64 (s.log.getD (s.asked - 1) (0, 0)).2) := by
    rw [Nat.mul_comm]
    exact hcell _ _ (logCells_time s.log (s.asked - 1) (by omega))
  have hFl : ¬ F = lb := by
    intro e
    exact h2.far hne0 h1 (by simp [Value.ownBlock, e])
  have hFl' : ¬ lb = F := fun e => hFl e.symm
  have e2 : ((s.asked : Int) == 0) = false := beq_eq_false_iff_ne.2 (by omega)
  obtain ⟨m, hm⟩ : ∃ m, s.asked = m + 1 := ⟨s.asked - 1, by omega⟩
  have hm1 : s.asked - 1 = m := by omega
  rw [hm1] at hx
  obtain ⟨t, ht⟩ : ∃ t, t = (s.log.getD (s.asked - 1) (0, 0)).2 := ⟨_, rfl⟩
  rw [hm1] at ht
  rw [← ht] at hx
  have HT : Hid (t = (s.log.getD (s.asked - 1) (0, 0)).2) := by rw [hm1]; exact ht
  rw [hm] at c6 e2
  push_cast at c6 e2
  have hi : (0 : Int) ≤ (m : Int) + 1 - 1 ∧ (m : Int) + 1 - 1 < s.log.length := by omega
  have hj : ((m : Int) + 1 - 1).toNat = m := by omega
  have hb2 : (s.log.length : Int) ≤ 1000000 := by omega
  have hb3 : (m : Int) < s.log.length := by omega
  have hi2 : (0 : Int) ≤ (m : Int) ∧ (m : Int) < s.log.length := by omega
  rw [hu] at c3
  clear h1 h2 hu ha hcell hne0 ht hm hm1 hl
  go_enter Try.func34, Try.ntmps34
  go_wp2_with fail
  go_region
  all_goals
    go_wp2
    go_end0
    exact ⟨rfl, hO.out _ t HT.out rfl ⟨rfl, rfl, rfl⟩⟩

theorem toMark_mp (s : FrSt) : s.toMark.mp = s.mp := by
  unfold FrSt.toMark
  split <;> rfl

theorem mark_rel (w : World) (F lb p q : Nat) (s : FrSt) (xs : List Int) (h : FMIs w F lb p q s xs) (hl : s.asked ≤ s.log.length) (hb : s.log.length ≤ 1000000) :
    Calls Try.prog 34 #[.pointer (some ⟨F, 0, none⟩)] w fun e w' => e = .returned (.tuple #[]) ∧ FMIs w' F lb p q s.toMark xs ∧ Only (· = F) w w' := by
  by_cases hc : s.underway = true ∧ s.asked ≠ 0
  · refine (mark_some w F lb s h.frame hc.1 hc.2 hl hb).mono ?_
    rintro e w' ⟨rfl, hf, ho⟩
    have e1 : s.toMark = { s with mark := (s.log.getD (s.asked - 1) (0, 0)).2, marked := true } := by rw [FrSt.toMark, if_pos hc]
    rw [← e1] at hf
    exact ⟨rfl, h.replay (toMark_mp s) hf ho, ho⟩
  · refine (mark_none w F lb s h.frame hc).mono ?_
    rintro e w' ⟨rfl, rfl⟩
    have e1 : s.toMark = s := by rw [FrSt.toMark, if_neg hc]
    rw [e1]
    exact ⟨rfl, h, Only.refl _ _⟩
end Go.Proofs.Ytfdfjibhbfdloaa
