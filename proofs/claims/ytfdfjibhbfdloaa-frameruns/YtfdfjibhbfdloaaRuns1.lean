/-
  frame.Run with a body of septumlaw02. Conditions: all of it lies in blocks that are not the same; at most 60 accesses.
-/
import Derived.Test.YtfdfjibhbfdloaaRuns0
namespace Go.Proofs.Ytfdfjibhbfdloaa
open Go.RowKit Go.Sept

set_option maxRecDepth 100000 in
set_option maxHeartbeats 2000000 in
theorem run2_rel (w : World) (p q P LB : Nat) (lo : Option Addr) (lc : Nat) (ins : List Ins) (ys : List Int) (most : Int) (hm : MemIs 74 w p q ys) (hp : w.heap[P]? = some (.cells #[.slice lo ins.length lc, .slice none 0 0, .int .i64 0] 33)) (hi : InsIs w lo LB ins)
    (hpos : 0 < ys.length) (hlen : ins.length ≤ 60) (hmm : most ≤ 9223372036854775807) (n1 : P ≠ p) (n2 : P ≠ q) (n3 : 0 < ins.length → LB ≠ q ∧ LB ≠ P) :
    Calls Try.prog 22 #[.pointer (some ⟨p, 0, none⟩), bodyV P, .int .i64 most] w fun e w' => ∃ J, StopAt ins ys most J ∧ e = .returned (.bool (decide (0 < most) && overB ins (playR ins ys J).1)) ∧ MemIs 74 w' p q (playR ins ys J).2 ∧ Only (fun k => k = q ∨ k = P) w w' := by
  have l1 : p < w.heap.size := lt_of_block hm.head
  have l2 : q < w.heap.size := hm.row.lt
  have l3 : P < w.heap.size := lt_of_block hp
  have l4 : 0 < ins.length → LB < w.heap.size := fun h0 => hi.lt h0
  have HM := hid hm
  have HP := hid hp
  have HI := hid hi
  have HN := hid (And.intro n1 (And.intro n2 n3))
  have HL4 := hid l4
  clear hm hp hi n1 n2 n3 l4
  go_enter Try.func22, Try.ntmps22
  go_wp2_with fail
  refine (fnew_rel _ _).mono ?_
  rintro e w1 ⟨F, rfl, hf1, hF, ho1⟩
  have HU1 : Hid (Under w1 F F p q P P LB lo lc ins (fresh (some ⟨p, 0, none⟩)) ys 0 []) :=
    under_new (HM.out.only ho1 (fun h => h) (fun h => h)) hf1 ((ho1.block P l3 (fun h => h)).trans HP.out) (HI.out.only ho1 (fun _ h => h)) (by omega) (by omega) (by omega) HN.out.1 HN.out.2.1 (fun h0 => ⟨by have := HL4.out h0; omega, (HN.out.2.2 h0).1, (HN.out.2.2 h0).2⟩)
  have HO1 := hid (ho1.mono (T := fun k => k = q ∨ k = P) (fun _ _ h => h.elim))
  have lF : w.heap.size ≤ F := by omega
  clear hf1 ho1 HM HP HI HN HL4 hF
  go_wp2_with fail
  go_loopw [12] (fun i wx => ∃ j : Nat, i = .int .i64 (j : Int) ∧ (j = 0 ∨ (j : Int) ≤ most) ∧ Busy ins ys j ∧ (∃ lb gb s la go, Under wx F lb p q P gb LB lo lc ins s (playR ins ys j).2 la go ∧ s.mp = some ⟨p, 0, none⟩ ∧ s.log = (playR ins ys j).1 ∧ s.underway = false ∧ s.done = false ∧ w.heap.size ≤ lb) ∧ Only (fun k => k = q ∨ k = P) w wx) (fun i _ => 61 - (intOf i).toNat)
  case atStart => exact ⟨0, rfl, .inl rfl, Busy.zero _ _, ⟨F, P, _, 0, [], HU1.out, rfl, rfl, rfl, rfl, by omega⟩, HO1.out⟩
  case round =>
    obtain ⟨j, rfl, hjm, hbusy, ⟨lb, gb, s, la, go, hU, t1, t2, t3, t4, t5⟩, hOx⟩ := hrel
    have hj60 : j ≤ 60 := by have := hbusy.le; omega
    have HB := hid hbusy
    have HU := hid hU
    have HT := hid (And.intro t1 (And.intro t2 (And.intro t3 t4)))
    have HOx := hid hOx
    have hj60' : (j : Int) ≤ 60 := by omega
    have HOnly : Hid (∀ w9, Only (fun k => k = F ∨ k = lb ∨ k = q ∨ k = P) wr w9 → Only (fun k => k = q ∨ k = P) w w9) := by
      intro w9 h9
      refine hOx.chain h9 (fun i hi e => ?_)
      rcases e with e | e | e | e
      · omega
      · omega
      · exact .inl e
      · exact .inr e
    have HFz : Hid (w.heap.size ≤ wr.heap.size) := hOx.size
    clear HU1 HO1 hbusy hU t1 t2 t3 t4 hOx
    by_cases hlt : (j : Int) < most
    · by_cases hc : (ctlOf ins (playR ins ys j).1).i < ins.length
      · have HC := hid hc
        clear hc
        go_wp2_with fail
        refine (step2_go _ F lb p q P gb LB lo lc ins s _ la go _ _ HT.out.2.1 HU.out HT.out.2.2.2 HT.out.2.2.1 (playR_live ins ys j) hlen HC.out).mono ?_
        rintro e w9 ⟨lb9, gb9, s9, la9, go9, rfl, hU9, ⟨r1, r2, r3, r4⟩, _, hlb9, hgb9, ho9⟩
        have eR := playR_go HC.out
        have e1 : nextLog ins (playR ins ys j).1 (playR ins ys j).2 (j : Int) = (playR ins ys (j + 1)).1 := by rw [eR]
        have e2 : nextWords ins (playR ins ys j).1 (playR ins ys j).2 = (playR ins ys (j + 1)).2 := by rw [eR]
        rw [e2] at hU9
        rw [e1] at r2 r4
        rw [e1]
        clear eR e1 e2
        cases hov : overB ins (playR ins ys (j + 1)).1
        · have HOV := hid hov
          rw [hov] at r4
          have HB2 := hid (HB.out.succ hov)
          have HF9 := hid hU9.fm.frame
          have HL9 : Hid (s9.log.length = j + 1) := by rw [r2]; exact HB2.out.length (j + 1) (Nat.le_refl _)
          have HS9 : Hid (∃ lb gb s la go, Under w9 F lb p q P gb LB lo lc ins s (playR ins ys (j + 1)).2 la go ∧ s.mp = some ⟨p, 0, none⟩ ∧ s.log = (playR ins ys (j + 1)).1 ∧ s.underway = false ∧ s.done = false ∧ w.heap.size ≤ lb) :=
            ⟨lb9, gb9, s9, la9, go9, hU9, r1.trans HT.out.1, r2, r3, r4, by have := HFz.out; rcases hlb9 with h9 | h9 <;> omega⟩
          have HO9 := hid (HOnly.out w9 ho9)
          have hne : ((j : Int) + 1 == (j : Int)) = false := beq_eq_false_iff_ne.2 (by omega)
          clear hov hU9 r1 r2 r3 r4 hlb9 hgb9 ho9
          go_wp2_with fail
          refine (steps_rel _ _ _ _ HF9.out).mono ?_
          rintro e w10 ⟨rfl, rfl⟩
          rw [HL9.out]
          push_cast
          go_wp2_with fail
          go_roundw
          case rel => exact ⟨j + 1, by go_num, .inr (by push_cast; omega), HB2.out, HS9.out, HO9.out⟩
          case measure => simp [intOf]; omega
        · have HOV := hid hov
          have HM9 : Hid (MemIs 74 w9 p q (playR ins ys (j + 1)).2) := by
            have h9 := hU9.fm.mem
            rw [r1, HT.out.1] at h9
            exact (holds_pos h9 (n := 0) (by rw [playR_words]; exact hpos)).2
          have HO9 := hid (HOnly.out w9 ho9)
          clear hov hU9 r1 r2 r3 r4 hlb9 hgb9 ho9
          go_wp2_with fail
          go_ret
          refine ⟨j + 1, ⟨fun h9 => by omega, fun _ => ⟨by omega, by push_cast; omega, HB.out, .inl HOV.out⟩⟩, ?_, HM9.out, HO9.out⟩
          rw [HOV.out, decide_eq_true (show 0 < most by omega)]
          rfl
      · have HC := hid hc
        clear hc
        go_wp2_with fail
        refine (step2_none _ F lb p q P gb LB lo lc ins s _ la go _ _ HT.out.2.1 HU.out HT.out.2.2.2 HT.out.2.2.1 (playR_live ins ys j) hlen HC.out).mono ?_
        rintro e w9 ⟨lb9, gb9, s9, la9, go9, rfl, hU9, ⟨r1, r2, r3, r4⟩, _, hlb9, hgb9, ho9⟩
        have HM9 : Hid (MemIs 74 w9 p q (playR ins ys (j + 1)).2) := by
          have h9 := hU9.fm.mem
          rw [r1, HT.out.1] at h9
          rw [playR_over HC.out]
          exact (holds_pos h9 (n := 0) (by rw [playR_words]; exact hpos)).2
        have HO9 := hid (HOnly.out w9 ho9)
        clear hU9 r1 r2 r3 r4 hlb9 hgb9 ho9
        go_wp2_with fail
        go_ret
        have hov : overB ins (playR ins ys (j + 1)).1 = true := by
          rw [playR_over HC.out, overB, decide_eq_false HC.out]
          rfl
        refine ⟨j + 1, ⟨fun h9 => by omega, fun _ => ⟨by omega, by push_cast; omega, HB.out, .inl hov⟩⟩, ?_, HM9.out, HO9.out⟩
        rw [hov, decide_eq_true (show 0 < most by omega)]
        rfl
    · have HMx : Hid (MemIs 74 wr p q (playR ins ys j).2) := by
        have h9 := HU.out.fm.mem
        rw [HT.out.1] at h9
        exact (holds_pos h9 (n := 0) (by rw [playR_words]; exact hpos)).2
      go_wp2_with fail
      go_ret
      by_cases hp0 : most ≤ 0
      · have hj0 : j = 0 := by omega
        refine ⟨j, ⟨fun _ => hj0, fun h9 => by omega⟩, ?_, HMx.out, HOx.out⟩
        rw [decide_eq_false (show ¬ 0 < most by omega)]
        rfl
      · have hj1 : (j : Int) = most := by omega
        have hov : overB ins (playR ins ys j).1 = false := HB.out j (by omega) (Nat.le_refl _)
        refine ⟨j, ⟨fun h9 => by omega, fun _ => ⟨by omega, by omega, fun t a b => HB.out t a (by omega), .inr hj1⟩⟩, ?_, HMx.out, HOx.out⟩
        rw [hov, Bool.and_false]
        rfl
end Go.Proofs.Ytfdfjibhbfdloaa
