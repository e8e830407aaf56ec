/-
  septumlaw03.awake answers true and turns nothing that was there. Conditions: none.
-/
import Derived.Test.YtfdfjibhbfdloaaTRun
namespace Go.Proofs.Ytfdfjibhbfdloaa
open Go.RowKit Go.Sept

set_option maxRecDepth 100000 in
set_option maxHeartbeats 1000000 in
theorem awake3_any (w : World) :
    Calls Try.prog 23 #[] w fun e w' => e = .returned (.bool true) ∧ Below w.heap.size w w' := by
  have hmf : ∀ (fn : Fn) (first cap : Array Value) (w : World), (Instr.makeFunc fn first cap).run Try.prog w = .ok (.func fn first cap) w := fun _ _ _ _ => rfl
  go_enter Try.func23, Try.ntmps23
  go_wp2_with fail
  refine (new_rel _ _).mono ?_
  rintro e w1 ⟨p, q, rfl, hm, hp, hq, ho1⟩
  rw [show clampN 6 = 6 from clamp_nat 6 (by decide)] at hm
  have HM := hid hm
  have HO1 := hid ho1
  clear hm ho1
  go_wp2_with fail
  have l1 : p < w1.heap.size := lt_of_block HM.out.head
  have l2 : q < w1.heap.size := HM.out.row.lt
  have hO2 : Only (fun _ => False) w1 (w1.alloc (.cells (userCells 0 (0, 0, false)) 62)) := (Only.refl _ _).alloc _
  have hsz : (w1.alloc (.cells (userCells 0 (0, 0, false)) 62)).heap.size = w1.heap.size + 1 := by simp
  have hz : w.heap.size ≤ w1.heap.size := HO1.out.size
  refine ((user_of 1000 (by decide) 0).run_all _ p q w1.heap.size (List.replicate 6 0) (0, 0, false) 10 (.inl ⟨rfl, HM.out.only hO2 (fun h => h) (fun h => h)⟩) (Nat.lt_of_lt_of_le l1 hO2.size) (Nat.lt_of_lt_of_le l2 hO2.size) (heap_new _ _) (by omega) (by omega) (by decide +kernel) (by decide) (by decide) (by decide +kernel)).mono ?_
  rintro e w3 ⟨rfl, hm3, hu3, ho3⟩
  rw [show (userT 1000 0).alone (List.replicate 6 0) = ((0, 0, false), [1, 1, 0, 0, 0, 1], 5) by decide +kernel] at hm3 hu3
  have c2 : w3.cell? ⟨w1.heap.size, 2, none⟩ = some (.int .i64 0) := cell_of_block hu3 2
  have HM3 := hid (holds_mem hm3 (by decide))
  have HO3 : Hid (Only (fun _ => False) w w3) := (HO1.out.chain hO2 (fun _ _ h => h)).chain ho3 (fun i hi e => by omega)
  clear hm3 hu3 ho3 HM HO1 hO2 hsz l1 l2 hz
  go_wp2_with fail
  refine (words_rel_pos _ p q _ HM3.out (by decide) (by decide)).mono ?_
  rintro e w4 ⟨b, rfl, hr4, hb4, ho4⟩
  have d1 : w4.cell? ⟨b, 1, none⟩ = some (.int .i64 1) := hr4.cell 1 (by decide)
  have HM4 := hid (HM3.out.only ho4 (fun h => h) (fun h => h))
  have HO4 := hid (HO3.out.chain ho4 (fun _ _ h => h))
  clear hr4 hb4 ho4 HM3 HO3 c2
  go_wp2_with fail
  refine (words_rel_pos _ p q _ HM4.out (by decide) (by decide)).mono ?_
  rintro e w5 ⟨b5, rfl, hr5, hb5, ho5⟩
  have d5 : w5.cell? ⟨b5, 5, none⟩ = some (.int .i64 1) := hr5.cell 5 (by decide)
  have HO5 := hid (HO4.out.chain ho5 (fun _ _ h => h))
  clear hr5 hb5 ho5 HM4 HO4 d1
  go_wp2_with fail
  go_ret
  exact ⟨rfl, HO5.out.below (Nat.le_refl _) (fun _ _ h => h)⟩
end Go.Proofs.Ytfdfjibhbfdloaa
