/-
  septumlaw10.awake answers true, and turns nothing that was there. Conditions: none.
-/
import Derived.Test.YtgoakjhjdoopkaaBody10
namespace Go.Sept
/-- A memory of 20 words with a table at 4, behind a Next of 2. -/
def tm0 : List Int := ((nexT 4 2).alone (List.replicate 20 0)).2.1
set_option maxRecDepth 100000 in
theorem nexted0 : ((nexT 4 2).alone (List.replicate 20 0)).1 = true := by decide +kernel
set_option maxRecDepth 100000 in
theorem checked0 : ((cheT 4 258).alone tm0).1 = (2, true) := by decide +kernel
set_option maxRecDepth 100000 in
theorem tm0_len : 0 < tm0.length := by decide +kernel
end Go.Sept

namespace Go.Proofs.Ytgoakjhjdoopkaa
open Go.RowKit Go.Sept

theorem new_at (w : World) (o : Obj) (k : Nat) (h : k = w.heap.size) : (w.alloc o).heap[k]? = some o := by
  subst h
  exact heap_new w o

set_option maxRecDepth 100000 in
set_option maxHeartbeats 1000000 in
theorem awake10_any (w : World) :
    Calls Try.prog 5 #[] w fun e w' => e = .returned (.bool true) ∧ Below w.heap.size w w' := by
  have hmf : ∀ (fn : Fn) (first cap : Array Value) (w : World), (Instr.makeFunc fn first cap).run Try.prog w = .ok (.func fn first cap) w := fun _ _ _ _ => rfl
  go_enter Try.func5, Try.ntmps5
  go_wp2_with fail
  refine (new_rel _ _).mono ?_
  rintro e w1 ⟨p, q, rfl, hm, hp, hq, ho1⟩
  rw [show clampN 20 = 20 from clamp_nat 20 (by decide)] at hm
  have hW : ∃ W z, W = (w1.alloc (act10O 2 3 2 0 0 false)).alloc (act10O 1 3 0 258 0 false) ∧ z = w1.heap.size ∧ MemIs 38 W p q (List.replicate 20 0) ∧ Only (fun _ => False) w W ∧ W.heap[z]? = some (act10O 2 3 2 0 0 false) ∧ W.heap[z + 1]? = some (act10O 1 3 0 258 0 false) ∧ p < z ∧ q < z ∧ w.heap.size ≤ z :=
    ⟨_, _, rfl, rfl, (hm.alloc _).alloc _, (ho1.alloc _).alloc _, (Below.heap_alloc _ _ _ (by simp)).trans (heap_new _ _), new_at _ _ _ (by simp), lt_of_block hm.head, hm.row.lt, ho1.size⟩
  obtain ⟨W, z, hWe, hze, h1, h2, h3, h4, zp, zq, zw⟩ := hW
  have HM := hid h1
  have HO := hid h2
  have HU := hid h3
  have HV := hid h4
  clear hm ho1 h1 h2 h3 h4
  simp only [act10O] at hWe
  go_wp2_with fail
  rw [← hWe, ← hze]
  clear hWe hze
  refine (run_turns (act10_next z 2 3 2 0 (by decide) (by decide) _ (by decide) (next_does 4 3 2 ⟨by decide, by decide, by decide⟩)) _ p q _ 5000 false HM.out HU.out (by omega) (by omega) (by decide) (by decide) (by decide) (by decide) (by decide)).mono ?_
  rintro e w3 ⟨rfl, hm3, hx3, ho3⟩
  rw [nexted0] at hx3
  have HM3 : Hid (MemIs 38 w3 p q tm0) := hm3
  have HU3 := hid hx3
  have HV3 := hid ((ho3.block _ (lt_of_block HV.out) (by omega)).trans HV.out)
  have HO3 : Hid (Only (fun _ => False) w w3) := HO.out.chain ho3 (fun i hi e => by
    rcases e with e | e <;> omega)
  clear hm3 hx3 ho3 HM HO HU HV
  go_wp2_with fail
  refine (run_turns (act10_check (z + 1) 3 0 258 _ (by decide) (check_does 4 3 258 (by decide) ⟨by decide, by decide, by decide⟩)) _ p q _ 5000 (0, false) HM3.out HV3.out (by omega) (by omega) (by decide) (by decide) (by decide) (by decide) tm0_len).mono ?_
  rintro e w5 ⟨rfl, hm5, hx5, ho5⟩
  rw [checked0] at hx5
  have hv5 := (ho5.block _ (lt_of_block HU3.out) (by omega)).trans HU3.out
  have c1 : w5.cell? ⟨z, 5, none⟩ = some (.bool true) := cell_of_block hv5 5
  have c3 : w5.cell? ⟨z + 1, 4, none⟩ = some (.int .i64 2) := cell_of_block hx5 4
  have c4 : w5.cell? ⟨z + 1, 5, none⟩ = some (.bool true) := cell_of_block hx5 5
  have HO5 : Hid (Only (fun _ => False) w w5) := HO3.out.chain ho5 (fun i hi e => by
    rcases e with e | e <;> omega)
  clear hm5 hx5 ho5 hv5 HM3 HU3 HO3 HV3
  go_wp2_with fail
  go_ret
  exact ⟨rfl, HO5.out.below (Nat.le_refl _) (fun _ _ h => h)⟩
end Go.Proofs.Ytgoakjhjdoopkaa
