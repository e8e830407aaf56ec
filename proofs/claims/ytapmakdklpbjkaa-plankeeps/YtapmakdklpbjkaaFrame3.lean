/-
  The frame's ask and keep. Conditions: the frame is there.
-/
import Derived.Test.YtapmakdklpbjkaaFrame2
namespace Go.Proofs.Ytapmakdklpbjkaa
open Go.RowKit Go.Sept

set_option maxHeartbeats 400000 in
theorem ask_idle (w : World) (F lb : Nat) (s : FrSt) (h : FrameIs w F lb s) (hu : s.underway = false) :
    Calls Try.prog 62 #[.pointer (some ⟨F, 0, none⟩)] w fun e w' => e = .returned (.tuple #[.int .i64 0, .bool false]) ∧ FrameIs w' F lb s ∧ Only (· = F) w w' := by
  have H : Hid (FrameIs w F lb s) := h
  obtain ⟨_, lv, h1, h2⟩ := h
  have c3 : w.cell? ⟨F, 3, none⟩ = some (.bool s.underway) := cell_of_block h1 3
  rw [hu] at c3
  clear h1 h2 hu
  go_enter Try.func62, Try.ntmps62
  go_wp2
  go_ret2
  exact ⟨rfl, H.out, Only.refl _ _⟩

set_option maxHeartbeats 1000000 in
theorem ask_off (w : World) (F lb : Nat) (s : FrSt) (h : FrameIs w F lb s) (hu : s.underway = true) (ha : s.asked = s.most) (hn : s.unheard < 1048576) :
    Calls Try.prog 62 #[.pointer (some ⟨F, 0, none⟩)] w fun e w' => e = .returned (.tuple #[.int .i64 0, .bool false]) ∧ FrameIs w' F lb { s with off := true, unheard := s.unheard + 1 } ∧ Only (· = F) w w' := by
  have H : Hid (FrameIs w F lb s) := h
  obtain ⟨_, lv, h1, h2⟩ := h
  have c3 : w.cell? ⟨F, 3, none⟩ = some (.bool s.underway) := cell_of_block h1 3
  have c6 : w.cell? ⟨F, 6, none⟩ = some (.int .i64 (s.asked : Int)) := cell_of_block h1 6
  have c7 : w.cell? ⟨F, 7, none⟩ = some (.int .i64 (s.most : Int)) := cell_of_block h1 7
  rw [hu] at c3
  rw [ha] at c6
  have HN : Hid (s.unheard < 1048576) := hn
  clear h1 h2 hu ha hn
  go_enter Try.func62, Try.ntmps62
  go_wp2_with fail
  go_quiet (fail)
  go_wp2_with fail
  have ho : Only (· = F) w (w.drewN nq) := only_drewN (Only.refl _ _) _
  have hd : FrameIs (w.drewN nq) F lb s := H.out.only (only_drewN (Only.refl (fun _ => False) _) _) (fun h => h) (fun h => h)
  refine (goOff_rel _ F lb s hd HN.out).mono ?_
  rintro e w1 ⟨rfl, hf, ho1⟩
  have HF : Hid (FrameIs w1 F lb { s with off := true, unheard := s.unheard + 1 } ∧ Only (· = F) w w1) := ⟨hf, ho.trans ho1⟩
  clear hf ho1 ho hd c3 c6 c7
  go_wp2_with fail
  go_ret2
  exact ⟨rfl, HF.out⟩

set_option maxHeartbeats 1000000 in
theorem ask_fresh (w : World) (F lb : Nat) (s : FrSt) (h : FrameIs w F lb s) (hu : s.underway = true) (ha : s.asked ≠ s.most) (hl : s.asked = s.log.length) :
    Calls Try.prog 62 #[.pointer (some ⟨F, 0, none⟩)] w fun e w' => e = .returned (.tuple #[.int .i64 0, .bool true]) ∧ FrameIs w' F lb s ∧ Only (· = F) w w' := by
  have H : Hid (FrameIs w F lb s) := h
  obtain ⟨_, lv, h1, h2⟩ := h
  obtain ⟨ao, cap, rfl, _, _⟩ := h2.shape
  have c1 : w.cell? ⟨F, 1, none⟩ = some (.slice ao s.log.length cap) := cell_of_block h1 1
  have c3 : w.cell? ⟨F, 3, none⟩ = some (.bool s.underway) := cell_of_block h1 3
  have c6 : w.cell? ⟨F, 6, none⟩ = some (.int .i64 (s.asked : Int)) := cell_of_block h1 6
  have c7 : w.cell? ⟨F, 7, none⟩ = some (.int .i64 (s.most : Int)) := cell_of_block h1 7
  have hne : ((s.log.length : Int) == (s.most : Int)) = false := beq_eq_false_iff_ne.2 (by omega)
  rw [hu] at c3
  rw [hl] at c6
  clear h1 h2 hu ha hl
  go_enter Try.func62, Try.ntmps62
  go_wp2_with fail
  go_quiet (fail)
  go_wp2_with fail
  go_quiet (fail)
  go_wp2_with fail
  go_ret2
  exact ⟨rfl, H.out.only (only_drewN (only_drewN (Only.refl (fun _ => False) _) _) _) (fun h => h) (fun h => h), only_drewN (only_drewN (Only.refl _ _) _) _⟩

set_option maxHeartbeats 1000000 in
theorem ask_again (w : World) (F lb : Nat) (s : FrSt) (h : FrameIs w F lb s) (hu : s.underway = true) (ha : s.asked ≠ s.most) (hl : s.asked < s.log.length) (hb : s.log.length ≤ 1000000) :
    Calls Try.prog 62 #[.pointer (some ⟨F, 0, none⟩)] w fun e w' => e = .returned (.tuple #[.int .i64 (s.log.getD s.asked (0, 0)).1, .bool false]) ∧ FrameIs w' F lb { s with asked := s.asked + 1 } ∧ Only (· = F) w w' := by
  obtain ⟨hne0, lv, h1, h2⟩ := h
  obtain ⟨cap, rfl, hc1, hc2, hcell⟩ := h2.cells (by omega)
  have c1 : w.cell? ⟨F, 1, none⟩ = some (.slice (some ⟨lb, 0, none⟩) s.log.length cap) := cell_of_block h1 1
  have c3 : w.cell? ⟨F, 3, none⟩ = some (.bool s.underway) := cell_of_block h1 3
  have c6 : w.cell? ⟨F, 6, none⟩ = some (.int .i64 (s.asked : Int)) := cell_of_block h1 6
  have c7 : w.cell? ⟨F, 7, none⟩ = some (.int .i64 (s.most : Int)) := cell_of_block h1 7
  have f6 : w.frozen? ⟨F, 6, none⟩ = false := frozen_of_block h1 6
  have hx : w.cell? ⟨lb, s.asked * 2, none⟩ = some (.int .i64 (s.log.getD s.asked (0, 0)).1) := by
    rw [Nat.mul_comm]
    exact hcell _ _ (logCells_answer s.log s.asked hl)
  have hFl : F ≠ lb := by
    rintro rfl
    rcases h2.own.2 with ⟨h0, _⟩ | ⟨g, cap', cur, h0, _, hg, _⟩
    · cases h0
    · injection h0 with h0 _
      injection h0 with h0
      injection h0 with h0
      subst h0
      rw [h1] at hg
      injection hg with hg
      injection hg with _ hg
      exact hne0 hg
  have hO : Hid (∀ n m : Nat, FrameIs (((w.drewN n).setCell ⟨F, 6, none⟩ (.int .i64 ((s.asked : Int) + 1))).drewN m) F lb { s with asked := s.asked + 1 } ∧ Only (· = F) w (((w.drewN n).setCell ⟨F, 6, none⟩ (.int .i64 ((s.asked : Int) + 1))).drewN m)) := by
    intro n m
    have ho : Only (· = F) w (((w.drewN n).setCell ⟨F, 6, none⟩ (.int .i64 ((s.asked : Int) + 1))).drewN m) := only_drewN ((only_drewN (Only.self F w) n).own 6 _) m
    exact ⟨FrameAt.upd hne0 h1 h2 ho (blk6 (w := w.drewN n) h1 (s.asked + 1)) rfl, ho⟩
  have e1 : ((s.asked : Int) == (s.most : Int)) = false := beq_eq_false_iff_ne.2 (by omega)
  have e2 : ((s.asked : Int) == (s.log.length : Int)) = false := beq_eq_false_iff_ne.2 (by omega)
  have hl2 : (s.asked : Int) < s.log.length := by omega
  have hb2 : (s.log.length : Int) ≤ 1000000 := by omega
  generalize (s.log.getD s.asked (0, 0)).1 = r at hx
  rw [hu] at c3
  clear h1 h2 hu ha hcell hne0
  go_enter Try.func62, Try.ntmps62
  go_wp2_with fail
  go_quiet (fail)
  go_wp2_with fail
  go_quiet (fail)
  go_wp2_with fail
  have hFl' : ¬ lb = F := fun e => hFl e.symm
  have hi : (0 : Int) ≤ (s.asked : Int) + 1 - 1 ∧ (s.asked : Int) + 1 - 1 < s.log.length := by omega
  have hj : ((s.asked : Int) + 1 - 1).toNat = s.asked := by omega
  go_quiet (fail)
  go_wp2_with fail
  go_ret2
  exact ⟨rfl, hO.out _ _⟩
end Go.Proofs.Ytapmakdklpbjkaa
