/-
  The frame's Swap and Mark. Conditions: the frame and its memory are there, and share no block.
-/
import Derived.Test.YtfdfjibhbfdloaaFrame5
import Derived.BigRegion
namespace Go.Proofs.Ytfdfjibhbfdloaa
open Go.RowKit Go.Sept

set_option maxHeartbeats 1000000 in
theorem fswap_rel (w : World) (F lb p q : Nat) (s : FrSt) (xs : List Int) (h : FMIs w F lb p q s xs) (hr : Ready s) (k a v u : Int) (k0 : k ≠ 0) (k1 : k ≠ 1) (k2 : k ≠ 2) :
    Calls Try.prog 33 #[.pointer (some ⟨F, 0, none⟩), .int .i64 a, .int .i64 u, .int .i64 v] w fun e w' => e = .returned (.bool ((acc k a v u s xs).1 != 0)) ∧ Left w F lb p q (acc k a v u s xs).2.1 (acc k a v u s xs).2.2 w' := by
  cases hf : s.isFresh with
  | false =>
    rw [acc, if_neg (by simp [hf])]
    go_enter Try.func33, Try.ntmps33
    go_wp2_with fail
    refine (ask_replay _ _ _ _ h.frame hr hf).mono ?_
    rintro e w1 ⟨rfl, h1, ho1⟩
    have HL : Hid (Left w F lb p q s.replay.2 xs w1) := left_replay h h1 ho1
    clear h1 ho1 h hr hf k0 k1 k2
    go_wp2_with fail
    go_ret
    exact ⟨rfl, HL.out⟩
  | true =>
    rw [acc, if_pos hf]
    have hs := hr.short
    have hb := hr.behind
    have e1 : ansA k a u xs = if hitA xs a u = true then 1 else 0 := by rw [ansA, if_neg k0, if_neg k1, if_neg k2]
    have e2 : aftA k a v u xs = swapA xs a u v := by rw [aftA, if_neg k0, if_neg k1, if_neg k2]
    rw [e1, e2]
    clear e1 e2 k0 k1 k2
    cases hh : hitA xs a u with
    | false =>
      have HH : Hid (hitA xs a u = false) := hh
      clear hh
      simp only [Bool.false_eq_true, if_false]
      go_enter Try.func33, Try.ntmps33
      go_wp2_with fail
      refine (ask_new _ _ _ _ h.frame hf).mono ?_
      rintro e w1 ⟨rfl, h1, ho1⟩
      have c0 := h1.mem_cell
      have hm1 := (h.replay rfl h1 ho1).mem
      go_wp2_with fail
      refine (swap_rel _ _ p q xs hm1 _ _ _).mono ?_
      rintro e w2 ⟨rfl, hm2, ho2⟩
      have h2 : FrameIs w2 F lb s := h1.only ho2 h.n2 h.n4
      rw [HH.out]
      clear c0
      go_wp2_with fail
      refine (keep_rel _ F lb s _ h2 (by omega) (by omega)).mono ?_
      rintro e w3 ⟨lb', rfl, h3, hl3, ho3⟩
      have HL : Hid (Left w F lb p q (s.kept 0) (swapA xs a u v) w3) := left_kept h ho1 hm2 ho2 h3 hl3 ho3
      clear h1 ho1 h hr hf hm1 h3 hl3 ho3 hm2 ho2 h2
      go_wp2_with fail
      go_ret
      exact ⟨rfl, HL.out⟩
    | true =>
      have HH : Hid (hitA xs a u = true) := hh
      clear hh
      simp only [if_true]
      go_enter Try.func33, Try.ntmps33
      go_wp2_with fail
      refine (ask_new _ _ _ _ h.frame hf).mono ?_
      rintro e w1 ⟨rfl, h1, ho1⟩
      have c0 := h1.mem_cell
      have hm1 := (h.replay rfl h1 ho1).mem
      go_wp2_with fail
      refine (swap_rel _ _ p q xs hm1 _ _ _).mono ?_
      rintro e w2 ⟨rfl, hm2, ho2⟩
      have h2 : FrameIs w2 F lb s := h1.only ho2 h.n2 h.n4
      rw [HH.out]
      clear c0
      go_wp2_with fail
      refine (keep_rel _ F lb s _ h2 (by omega) (by omega)).mono ?_
      rintro e w3 ⟨lb', rfl, h3, hl3, ho3⟩
      have HL : Hid (Left w F lb p q (s.kept 1) (swapA xs a u v) w3) := left_kept h ho1 hm2 ho2 h3 hl3 ho3
      clear h1 ho1 h hr hf hm1 h3 hl3 ho3 hm2 ho2 h2
      go_wp2_with fail
      go_ret
      exact ⟨rfl, HL.out⟩

set_option maxHeartbeats 1000000 in
theorem mark_none (w : World) (F lb : Nat) (s : FrSt) (h : FrameIs w F lb s) (hn : ¬ (s.underway = true ∧ s.asked ≠ 0)) :
    Calls Try.prog 34 #[.pointer (some ⟨F, 0, none⟩)] w fun e w' => e = .returned (.tuple #[]) ∧ w' = w := by
  obtain ⟨_, lv, h1, h2⟩ := h
  have c3 : w.cell? ⟨F, 3, none⟩ = some (.bool s.underway) := cell_of_block h1 3
  have c6 : w.cell? ⟨F, 6, none⟩ = some (.int .i64 (s.asked : Int)) := cell_of_block h1 6
  clear h1 h2
  cases hu : s.underway with
  | false =>
    rw [hu] at c3
    clear hu hn
    go_enter Try.func34, Try.ntmps34
    go_wp2
    refine bodyPost_ret (results_none rfl _ _ _) rfl ?_
    exact ⟨rfl, rfl⟩
  | true =>
    have h0 : s.asked = 0 := by
      rw [hu] at hn
      simpa using hn
    rw [hu] at c3
    rw [h0] at c6
    clear hu hn h0
    go_enter Try.func34, Try.ntmps34
    go_wp2
    refine bodyPost_ret (results_none rfl _ _ _) rfl ?_
    exact ⟨rfl, rfl⟩

end Go.Proofs.Ytfdfjibhbfdloaa
