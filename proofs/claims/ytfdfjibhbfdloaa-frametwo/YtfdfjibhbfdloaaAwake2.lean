/-
  septumlaw02.awake answers true and turns nothing that was there. Conditions: none.
-/
import Derived.Test.YtfdfjibhbfdloaaStep2
namespace Go.Proofs.Ytfdfjibhbfdloaa
open Go.RowKit Go.Sept

def insAwake : List Ins := [⟨2, 0, 1, 0, false, false, false⟩, ⟨2, 0, 1, 0, false, false, false⟩]

set_option maxRecDepth 100000 in
set_option maxHeartbeats 2000000 in
theorem awake_any (w : World) :
    Calls Try.prog 9 #[] w fun e w' => e = .returned (.bool true) ∧ Below w.heap.size w w' := by
  have hmf : ∀ (fn : Fn) (first cap : Array Value) (w : World), (Instr.makeFunc fn first cap).run Try.prog w = .ok (.func fn first cap) w := fun _ _ _ _ => rfl
  go_enter Try.func9, Try.ntmps9
  go_wp2_with fail
  refine (new_rel _ _).mono ?_
  rintro e w1 ⟨p, q, rfl, hm, hp, hq, ho1⟩
  rw [show clampN 2 = 2 from clamp_nat 2 (by decide)] at hm
  have HM := hid hm
  have HO1 := hid ho1
  clear hm ho1
  go_wp2_with fail
  refine (fnew_rel _ _).mono ?_
  rintro e w3 ⟨F, rfl, hf3, hF, ho3⟩
  have hL := prog_laid w1 insAwake 2
  have hF' : F = w1.heap.size + 2 := hF.trans hL.2.2.2
  have l1 : p < w1.heap.size := lt_of_block HM.out.head
  have l2 : q < w1.heap.size := HM.out.row.lt
  have HU3 : Hid (Under w3 F F p q (w1.heap.size + 1) (w1.heap.size + 1) w1.heap.size (some ⟨w1.heap.size, 0, none⟩) 2 insAwake (fresh (some ⟨p, 0, none⟩)) [0, 0] 0 []) :=
    under_new ((HM.out.only hL.2.2.1 (fun h => h) (fun h => h)).only ho3 (fun h => h) (fun h => h)) hf3 ((ho3.block _ (by have h9 : _ = w1.heap.size + 2 := hL.2.2.2; exact h9.symm ▸ Nat.lt_succ_self _) (fun h => h)).trans hL.2.1) (hL.1.only ho3 (fun _ h => h)) (by omega) (by omega) (by omega) (by omega) (by omega) (fun _ => ⟨by omega, by omega, by omega⟩)
  have HO3 : Hid (Only (fun _ => False) w w3) := (HO1.out.chain hL.2.2.1 (fun _ _ h => h)).chain ho3 (fun _ _ h => h)
  have hz : w.heap.size ≤ w1.heap.size := HO1.out.size
  clear hL hf3 ho3 hF HM HO1
  generalize w1.heap.size = z at *
  subst hF'
  go_wp2_with fail
  refine (step2_go _ (z + 2) (z + 2) p q (z + 1) (z + 1) z _ 2 insAwake _ [0, 0] 0 [] 0 [] rfl HU3.out rfl rfl (Live.nil _) (by decide) (by decide)).mono ?_
  rintro e w4 ⟨lb4, gb4, s4, la4, go4, rfl, hU4, ⟨r1, r2, r3, r4⟩, _, hlb4, hgb4, ho4⟩
  rw [show nextLog insAwake [] [0, 0] 0 = [(0, 0)] by decide +kernel] at r2 r4
  rw [show nextWords insAwake [] [0, 0] = [1, 0] by decide +kernel] at hU4
  rw [show overB insAwake (nextLog insAwake [] [0, 0] 0) = false by decide +kernel]
  rw [show overB insAwake [(0, 0)] = false by decide +kernel] at r4
  have hh4 : Holds 74 w4 (.pointer (some ⟨p, 0, none⟩)) p q [1, 0] := by
    have h9 := hU4.fm.mem
    rwa [r1] at h9
  have HU4 := hid hU4
  have HO4 := hid ho4
  have HR := hid (And.intro r1 (And.intro r2 (And.intro r3 r4)))
  clear hU4 ho4 r1 r2 r3 r4
  go_wp2_with fail
  refine (load_rel _ _ p q [1, 0] hh4 0).mono ?_
  rintro e w5 ⟨rfl, rfl⟩
  rw [show valA [1, 0] 0 = 1 by decide +kernel]
  clear hh4
  go_wp2_with fail
  refine (step2_go _ (z + 2) lb4 p q (z + 1) gb4 z _ 2 insAwake s4 [1, 0] la4 go4 1 [(0, 0)] HR.out.2.1 HU4.out HR.out.2.2.2 HR.out.2.2.1 (live_next (log := []) (Live.nil insAwake) (by decide) [0, 0] 0) (by decide) (by decide)).mono ?_
  rintro e w6 ⟨lb6, gb6, s6, la6, go6, rfl, hU6, ⟨r1, r2, r3, r4⟩, _, hlb6, hgb6, ho6⟩
  rw [show overB insAwake (nextLog insAwake [(0, 0)] [1, 0] 1) = true by decide +kernel]
  rw [show overB insAwake (nextLog insAwake [(0, 0)] [1, 0] 1) = true by decide +kernel] at r4
  have hlen6 : s6.log.length = 2 := by rw [r2]; decide
  have HF6 := hid hU6.fm.frame
  have hO6 : Hid (Below w.heap.size w w6) := by
    have z4 := HO4.out.size
    refine ((HO3.out.chain HO4.out (fun i hi e => ?_)).chain ho6 (fun i hi e => ?_)).below (Nat.le_refl _) (fun _ _ h => h)
    · omega
    · have z3 := HO3.out.size
      rcases hlb4 with h9 | h9 <;> omega
  have HR6 := hid r4
  have HL6 := hid hlen6
  clear hU6 ho6 r1 r2 r3 r4 hlen6 hlb6 hgb6
  go_wp2_with fail
  refine (done_rel _ _ _ _ HF6.out).mono ?_
  rintro e w7 ⟨rfl, rfl⟩
  rw [HR6.out]
  go_wp2_with fail
  refine (steps_rel _ _ _ _ HF6.out).mono ?_
  rintro e w8 ⟨rfl, rfl⟩
  rw [HL6.out]
  go_wp2_with fail
  go_ret
  exact ⟨rfl, hO6.out⟩
end Go.Proofs.Ytfdfjibhbfdloaa
