/-
  ticket.Enter, as a tree of accesses. Conditions: the frame and its memory are there, and share no block; the tree is long enough for the frame's log.
-/
import Derived.Test.YtfdfjibhbfdloaaTick
namespace Go.Sept
open Go.RowKit

theorem waitT_run (m : Nat) (a t : Int) (s : FrSt) (xs : List Int) : (waitT a t (m + 1)).run s xs =
    if ((servedT a t).run s xs).1 = true then (t, ((servedT a t).run s xs).2) else if (!((servedT a t).run s xs).2.1.underway || ((servedT a t).run s xs).2.1.off) = true then (t, ((servedT a t).run s xs).2) else (waitT a t m).run ((servedT a t).run s xs).2.1 ((servedT a t).run s xs).2.2 := by
  rw [run_served]
  show Tree.run (if (!(!(Sept.acc 0 (wrap64 (a + 1)) 0 0 s xs).2.1.underway || (Sept.acc 0 (wrap64 (a + 1)) 0 0 s xs).2.1.off) && ((Sept.acc 0 (wrap64 (a + 1)) 0 0 s xs).1 == t)) = true then (.ret t : Tree Int (3 * m + 1)) else .off fun o2 => if o2 = true then .ret t else waitT a t m) _ _ = _
  split
  · rfl
  · rw [Tree.run_off]
    split
    · rw [Tree.run_ret]
    · rfl

theorem acc_off_stays (k a v u : Int) (s : FrSt) (xs : List Int) (h : s.off = true) : (acc k a v u s xs).2.1.off = true := by
  unfold acc
  split
  · exact h
  · unfold FrSt.replay
    split
    · exact h
    · split
      · rfl
      · exact h

/-- The tree is long enough. -/
structure Long (n : Nat) (s : FrSt) : Prop where
  pos : 0 < n
  most : s.asked ≤ s.most
  far : s.underway = true → s.off = false → s.most + 2 ≤ n + s.asked

theorem Long.start {n : Nat} {s : FrSt} (h1 : s.asked ≤ s.most) (h2 : s.most + 2 ≤ n) : Long n s := ⟨by omega, h1, fun _ _ => by omega⟩
theorem Long.acc {n : Nat} {s : FrSt} (h : Long (n + 1) s) (k a v u : Int) (xs : List Int) (ho : ¬ (!(acc k a v u s xs).2.1.underway || (acc k a v u s xs).2.1.off) = true) : Long n (acc k a v u s xs).2.1 := by
  simp only [Bool.or_eq_true, not_or, Bool.not_eq_true, Bool.not_eq_eq_eq_not, Bool.not_true, Bool.not_eq_false] at ho
  obtain ⟨h1, h2⟩ := ho
  obtain ⟨_, h3, h4, _, _⟩ := acc_cases k a v u s xs
  rw [h4] at h1
  have h5 : s.off = false := by
    cases h6 : s.off with
    | false => rfl
    | true => rw [acc_off_stays k a v u s xs h6] at h2; exact absurd h2 (by decide)
  have h6 := h.far h1 h5
  have h7 : (Sept.acc k a v u s xs).2.1.asked = s.asked + 1 := by
    rcases acc_left k a v u s xs h1 h5 with h8 | h8
    · rw [h8] at h2
      exact absurd h2 (by decide)
    · exact h8.2
  have h8 := acc_asked_le k a v u s xs h.most
  exact ⟨by omega, by rw [h3]; exact h8, fun _ _ => by rw [h3, h7]; omega⟩
theorem Long.draw {n : Nat} {s : FrSt} (h1 : s.asked ≤ s.most) (h2 : s.most + 2 ≤ n) (k a v u : Int) (xs : List Int) : Long n (Sept.acc k a v u s xs).2.1 := by
  obtain ⟨_, h3, _⟩ := acc_cases k a v u s xs
  exact Long.start (by rw [h3]; exact acc_asked_le k a v u s xs h1) (by rw [h3]; exact h2)
end Go.Sept

namespace Go.Proofs.Ytfdfjibhbfdloaa
open Go.RowKit Go.Sept

set_option maxRecDepth 100000 in
set_option maxHeartbeats 1000000 in
theorem enter_rel (n : Nat) (w : World) (F lb p q : Nat) (s : FrSt) (xs : List Int) (h : FMIs w F lb p q s xs) (hr : Fit (n + 1) s) (h1 : s.asked ≤ s.most) (h2 : s.most + 2 ≤ n) (a : Int) :
    Calls Try.prog 41 #[.pointer (some ⟨F, 0, none⟩), .int .i64 a] w fun e w' => e = .returned (.int .i64 ((enterT n a).run s xs).1) ∧ Left w F lb p q ((enterT n a).run s xs).2.1 ((enterT n a).run s xs).2.2 w' := by
  obtain ⟨R, hR⟩ : ∃ R, (enterT n a).run s xs = R := ⟨_, rfl⟩
  rw [hR]
  have HR := hid hR
  have H := hid h
  have HF := hid hr
  have HL := hid (Long.draw h1 h2 2 a 1 0 xs)
  clear hR h hr h1 h2
  go_enter Try.func41, Try.ntmps41
  go_wp2_with fail
  refine (draw_rel _ F lb p q s xs H.out (HF.out.mono (by omega)) a).mono ?_
  rintro e w1 ⟨rfl, hL⟩
  obtain ⟨t, ht⟩ : ∃ t, ((drawT a).run s xs).1 = t := ⟨_, rfl⟩
  rw [ht]
  have HS : Hid (Left w F lb p q (acc 2 a 1 0 s xs).2.1 (acc 2 a 1 0 s xs).2.2 w1 ∧ (waitT a t n).run (acc 2 a 1 0 s xs).2.1 (acc 2 a 1 0 s xs).2.2 = R) := by
    refine ⟨hL, ?_⟩
    rw [← HR.out, ← ht]
    rfl
  clear hL ht
  go_wp2_with fail
  go_loopg [] n (fun g wr => ∃ s1 xs1, (waitT a t g).run s1 xs1 = R ∧ Fit g s1 ∧ Long g s1 ∧ Left w F lb p q s1 xs1 wr)
  case atStart => exact ⟨_, _, HS.out.2, HF.out.acc 2 a 1 0 xs, HL.out, HS.out.1⟩
  case round =>
    obtain ⟨s1, xs1, hrun, hfit, hlong, hleft⟩ := hrel
    clear HS H HF HL HR
    obtain ⟨m, rfl⟩ : ∃ m, gk = m + 1 := ⟨gk - 1, by have := hlong.pos; omega⟩
    rw [waitT_run] at hrun
    have HRUN := hid hrun
    obtain ⟨lb1, hfm, hlb1, ho1⟩ := hleft
    have HLEFT := hid (And.intro hlb1 ho1)
    have HFM := hid hfm
    have HFIT := hid hfit
    have HLONG := hid hlong
    clear hrun hfm hfit hlong hlb1 ho1
    go_wp2_with fail
    refine (served_rel _ F lb1 p q s1 xs1 HFM.out (HFIT.out.mono (by omega)) a t).mono ?_
    rintro e w2 ⟨rfl, hL2⟩
    have HL2 : Hid (Left w F lb p q ((servedT a t).run s1 xs1).2.1 ((servedT a t).run s1 xs1).2.2 w2) := left_chain HLEFT.out.1 HLEFT.out.2 hL2
    obtain ⟨lb2, hfm2, _, _⟩ := hL2
    have HFM2 := hid hfm2
    clear hfm2
    obtain ⟨v, hv⟩ : ∃ v, ((servedT a t).run s1 xs1).1 = v := ⟨_, rfl⟩
    rw [hv]
    have HV := hid hv
    clear hv
    cases v
    · go_wp2_with fail
      refine (foff_left HFM2.out).mono ?_
      rintro e w3 ⟨rfl, rfl⟩
      obtain ⟨o, ho⟩ : ∃ o, (!((servedT a t).run s1 xs1).2.1.underway || ((servedT a t).run s1 xs1).2.1.off) = o := ⟨_, rfl⟩
      rw [ho]
      have HO := hid ho
      clear ho
      cases o
      · go_wp2_with fail
        go_roundg m
        case measure => omega
        case rel =>
          refine ⟨_, _, ?_, HFIT.out.acc 0 (wrap64 (a + 1)) 0 0 xs1, HLONG.out.acc 0 (wrap64 (a + 1)) 0 0 xs1 ?_, HL2.out⟩
          · have h9 := HRUN.out
            rw [if_neg (by rw [HV.out]; decide), if_neg (by rw [HO.out]; decide)] at h9
            exact h9
          · have h9 := HO.out
            rw [run_served] at h9
            rw [h9]
            decide
      · go_wp2_with fail
        go_ret
        have h9 := HRUN.out
        rw [if_neg (by rw [HV.out]; decide), if_pos (by rw [HO.out])] at h9
        subst h9
        exact ⟨rfl, HL2.out⟩
    · go_wp2_with fail
      go_ret
      have h9 := HRUN.out
      rw [if_pos (by rw [HV.out])] at h9
      subst h9
      exact ⟨rfl, HL2.out⟩
end Go.Proofs.Ytfdfjibhbfdloaa
