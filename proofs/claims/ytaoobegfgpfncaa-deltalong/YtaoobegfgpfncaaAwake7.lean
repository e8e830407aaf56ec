/-
  septumlaw07.made makes a memory with an empty timers' list; septumlaw07.awake answers true; neither turns anything that was there. Conditions: none.
-/
import Derived.Test.YtaoobegfgpfncaaBody7
import Derived.Test.YtaoobegfgpfncaaRing7b
namespace Go.Sept
/-- A memory of 60 words with an empty timers' list at 2. -/
def tm0 : List Int := ((joinT 2 2).alone (List.replicate 60 0)).2.1
/-- The same with the timer 10, due in 1 tick; behind that tick. -/
def tm1 : List Int := ((dInsertT 2 10 1 26).alone tm0).2.1
def tm2 : List Int := ((dTickT 2).alone tm1).2.1
theorem tm0_len : tm0.length = 60 := by decide +kernel
theorem ring0 : Ring tm0 [] := ⟨tm0_len, ⟨by decide +kernel, by decide +kernel⟩, fun _ h => (List.not_mem_nil h).elim, trivial⟩
set_option maxRecDepth 100000 in
theorem due10 : ((dDueT 2).alone tm2).1 = (10, true) := by decide +kernel
set_option maxRecDepth 100000 in
theorem tm1_len : 0 < tm1.length := by decide +kernel
set_option maxRecDepth 100000 in
theorem tm2_len : 0 < tm2.length := by decide +kernel
end Go.Sept

namespace Go.Proofs.Ytaoobegfgpfncaa
open Go.RowKit Go.Sept

theorem new_at (w : World) (o : Obj) (k : Nat) (h : k = w.heap.size) : (w.alloc o).heap[k]? = some o := by
  subst h
  exact heap_new w o

set_option maxRecDepth 100000 in
set_option maxHeartbeats 1000000 in
theorem made7_rel (w : World) :
    Calls Try.prog 5 #[] w fun e w' => ∃ p q, e = .returned (.pointer (some ⟨p, 0, none⟩)) ∧ MemIs 60 w' p q tm0 ∧ w.heap.size ≤ p ∧ w.heap.size ≤ q ∧ Only (fun _ => False) w w' := by
  have hmf : ∀ (fn : Fn) (first cap : Array Value) (w : World), (Instr.makeFunc fn first cap).run Try.prog w = .ok (.func fn first cap) w := fun _ _ _ _ => rfl
  go_enter Try.func5, Try.ntmps5
  go_wp2_with fail
  refine (new_rel _ _).mono ?_
  rintro e w1 ⟨p, q, rfl, hm, hp, hq, ho1⟩
  rw [show clampN 60 = 60 from clamp_nat 60 (by decide)] at hm
  have hW : ∃ W z, W = w1.alloc (act7O 4 0 0 (0, false)) ∧ z = w1.heap.size ∧ MemIs 60 W p q (List.replicate 60 0) ∧ Only (fun _ => False) w W ∧ W.heap[z]? = some (act7O 4 0 0 (0, false)) ∧ p < z ∧ q < z :=
    ⟨_, _, rfl, rfl, hm.alloc _, ho1.alloc _, heap_new _ _, lt_of_block hm.head, hm.row.lt⟩
  obtain ⟨W, z, hWe, hze, h1, h2, h3, zp, zq⟩ := hW
  have HM := hid h1
  have HO := hid h2
  have HU := hid h3
  clear hm ho1 h1 h2 h3
  simp only [act7O] at hWe
  go_wp2_with fail
  rw [← hWe, ← hze]
  clear hWe hze
  refine (run_reads (act7_4 z 0 0 (0, false)) _ p q _ 5000 HM.out HU.out (by omega) (by omega) (by decide) (by decide) (by decide) (by decide) (by decide)).mono ?_
  rintro e w3 ⟨rfl, hm3, ho3⟩
  have HE : Hid (MemIs 60 w3 p q tm0 ∧ w.heap.size ≤ p ∧ w.heap.size ≤ q ∧ Only (fun _ => False) w w3) := ⟨hm3, hp, hq, HO.out.chain ho3 (fun i hi e => by omega)⟩
  clear hm3 ho3 hp hq HM HO HU
  go_wp2_with fail
  go_ret
  exact ⟨p, q, rfl, HE.out⟩

set_option maxRecDepth 100000 in
set_option maxHeartbeats 1000000 in
theorem awake7_any (w : World) :
    Calls Try.prog 4 #[] w fun e w' => e = .returned (.bool true) ∧ Below w.heap.size w w' := by
  have hmf : ∀ (fn : Fn) (first cap : Array Value) (w : World), (Instr.makeFunc fn first cap).run Try.prog w = .ok (.func fn first cap) w := fun _ _ _ _ => rfl
  go_enter Try.func4, Try.ntmps4
  go_wp2_with fail
  refine (made7_rel _).mono ?_
  rintro e w1 ⟨p, q, rfl, hm, hp, hq, ho1⟩
  have hW : ∃ W z, W = ((w1.alloc (act7O 0 10 1 (0, false))).alloc (act7O 2 0 0 (0, false))).alloc (act7O 3 0 0 (0, false)) ∧ z = w1.heap.size ∧ MemIs 60 W p q tm0 ∧ Only (fun _ => False) w W ∧ W.heap[z]? = some (act7O 0 10 1 (0, false)) ∧ W.heap[z + 1]? = some (act7O 2 0 0 (0, false)) ∧ W.heap[z + 1 + 1]? = some (act7O 3 0 0 (0, false)) ∧ p < z ∧ q < z ∧ w.heap.size ≤ z :=
    ⟨_, _, rfl, rfl, ((hm.alloc _).alloc _).alloc _, ((ho1.alloc _).alloc _).alloc _, (Below.heap_alloc _ _ _ (by simp; omega)).trans ((Below.heap_alloc _ _ _ (by simp)).trans (heap_new _ _)), (Below.heap_alloc _ _ _ (by simp)).trans (new_at _ _ _ (by simp)), new_at _ _ _ (by simp), lt_of_block hm.head, hm.row.lt, ho1.size⟩
  obtain ⟨W, z, hWe, hze, h1, h2, h3, h4, h5, zp, zq, zw⟩ := hW
  have HM := hid h1
  have HO := hid h2
  have HU := hid h3
  have HV := hid h4
  have HX := hid h5
  clear hm ho1 h1 h2 h3 h4 h5
  simp only [act7O] at hWe
  go_wp2_with fail
  rw [← hWe, ← hze]
  clear hWe hze
  refine (run_reads (act7_0 z 10 1 (0, false) (by decide)) _ p q _ 5000 HM.out HU.out (by omega) (by omega) (by decide) (by decide) (by decide) (by decide) (by rw [tm0_len]; decide)).mono ?_
  rintro e w3 ⟨rfl, hm3, ho3⟩
  have HM3 : Hid (MemIs 60 w3 p q tm1) := hm3
  have HV3 := hid ((ho3.block _ (lt_of_block HV.out) (by omega)).trans HV.out)
  have HX3 := hid ((ho3.block _ (lt_of_block HX.out) (by omega)).trans HX.out)
  have HO3 := hid (HO.out.chain ho3 (fun i hi e => by omega))
  clear hm3 ho3 HM HO HU HV HX
  go_wp2_with fail
  refine (run_reads (act7_2 (z + 1) 0 0 (0, false)) _ p q _ 5000 HM3.out HV3.out (by omega) (by omega) (by decide) (by decide) (by decide) (by decide) tm1_len).mono ?_
  rintro e w4 ⟨rfl, hm4, ho4⟩
  have HM4 : Hid (MemIs 60 w4 p q tm2) := hm4
  have HX4 := hid ((ho4.block _ (lt_of_block HX3.out) (by omega)).trans HX3.out)
  have HO4 := hid (HO3.out.chain ho4 (fun i hi e => by omega))
  clear hm4 ho4 HM3 HO3 HV3 HX3
  go_wp2_with fail
  refine (run_turns (act7_3 (z + 1 + 1) 0 0) _ p q _ 5000 (0, false) HM4.out HX4.out (by omega) (by omega) (by decide) (by decide) (by decide) (by decide) tm2_len).mono ?_
  rintro e w5 ⟨rfl, hm5, hx5, ho5⟩
  rw [due10] at hx5
  have c3 : w5.cell? ⟨z + 1 + 1, 3, none⟩ = some (.int .i64 10) := cell_of_block hx5 3
  have c4 : w5.cell? ⟨z + 1 + 1, 4, none⟩ = some (.bool true) := cell_of_block hx5 4
  have HO5 : Hid (Only (fun _ => False) w w5) := HO4.out.chain ho5 (fun i hi e => by
    rcases e with e | e <;> omega)
  clear hm5 hx5 ho5 HM4 HX4 HO4
  go_wp2_with fail
  go_ret
  exact ⟨rfl, HO5.out.below (Nat.le_refl _) (fun _ _ h => h)⟩
end Go.Proofs.Ytaoobegfgpfncaa
