/-
  septumlaw09.awake answers true, and turns nothing that was there. Conditions: none.
-/
import Derived.Test.YtipimcpkgcekcaaBody9
namespace Go.Sept
/-- A memory of 30 words with a set of 2 blocks at 2; with one of them taken. -/
def bm0 : List Int := ((initsT 2 2 0).alone (List.replicate 30 0)).2.1
def bm1 : List Int := ((takeT 2 2).alone bm0).2.1
set_option maxRecDepth 100000 in
theorem took0 : ((takeT 2 2).alone bm0).1 = (0, true) := by decide +kernel
set_option maxRecDepth 100000 in
theorem took1 : ((takeT 2 2).alone bm1).1 = (1, true) := by decide +kernel
set_option maxRecDepth 100000 in
theorem bm0_len : 0 < bm0.length := by decide +kernel
set_option maxRecDepth 100000 in
theorem bm1_len : 0 < bm1.length := by decide +kernel
end Go.Sept

namespace Go.Proofs.Ytipimcpkgcekcaa
open Go.RowKit Go.Sept

theorem new_at (w : World) (o : Obj) (k : Nat) (h : k = w.heap.size) : (w.alloc o).heap[k]? = some o := by
  subst h
  exact heap_new w o

set_option maxRecDepth 100000 in
set_option maxHeartbeats 1000000 in
theorem awake9_any (w : World) :
    Calls Try.prog 4 #[] w fun e w' => e = .returned (.bool true) ∧ Below w.heap.size w w' := by
  have hmf : ∀ (fn : Fn) (first cap : Array Value) (w : World), (Instr.makeFunc fn first cap).run Try.prog w = .ok (.func fn first cap) w := fun _ _ _ _ => rfl
  go_enter Try.func4, Try.ntmps4
  go_wp2_with fail
  refine (new_rel _ _).mono ?_
  rintro e w1 ⟨p, q, rfl, hm, hp, hq, ho1⟩
  rw [show clampN 30 = 30 from clamp_nat 30 (by decide)] at hm
  have hW : ∃ W z, W = ((w1.alloc (act9O 3 2 0 0 false)).alloc (act9O 0 2 0 0 false)).alloc (act9O 0 2 0 0 false) ∧ z = w1.heap.size ∧ MemIs 37 W p q (List.replicate 30 0) ∧ Only (fun _ => False) w W ∧ W.heap[z]? = some (act9O 3 2 0 0 false) ∧ W.heap[z + 1]? = some (act9O 0 2 0 0 false) ∧ W.heap[z + 1 + 1]? = some (act9O 0 2 0 0 false) ∧ p < z ∧ q < z ∧ w.heap.size ≤ z :=
    ⟨_, _, rfl, rfl, ((hm.alloc _).alloc _).alloc _, ((ho1.alloc _).alloc _).alloc _, (Below.heap_alloc _ _ _ (by simp; omega)).trans ((Below.heap_alloc _ _ _ (by simp)).trans (heap_new _ _)), (Below.heap_alloc _ _ _ (by simp)).trans (new_at _ _ _ (by simp)), new_at _ _ _ (by simp), lt_of_block hm.head, hm.row.lt, ho1.size⟩
  obtain ⟨W, z, hWe, hze, h1, h2, h3, h4, h5, zp, zq, zw⟩ := hW
  have HM := hid h1
  have HO := hid h2
  have HU := hid h3
  have HV := hid h4
  have HX := hid h5
  clear hm ho1 h1 h2 h3 h4 h5
  simp only [act9O] at hWe
  go_wp2_with fail
  rw [← hWe, ← hze]
  clear hWe hze
  refine (blockWords_in _ 2 (by decide) (by decide)).mono ?_
  rintro e w2 ⟨rfl, rfl⟩
  go_wp2_with fail
  refine (run_reads (act9_init z 3 2 0 (by decide) (by decide) (by decide) _ (by decide) (init_does 2 2 (by decide) (by decide))) _ p q _ 5000 HM.out HU.out (by omega) (by omega) (by decide) (by decide) (by decide) (by decide) (by decide)).mono ?_
  rintro e w3 ⟨rfl, hm3, ho3⟩
  have HM3 : Hid (MemIs 37 w3 p q bm0) := hm3
  have HV3 := hid ((ho3.block _ (lt_of_block HV.out) (by omega)).trans HV.out)
  have HX3 := hid ((ho3.block _ (lt_of_block HX.out) (by omega)).trans HX.out)
  have HO3 := hid (HO.out.chain ho3 (fun i hi e => by omega))
  clear hm3 ho3 HM HO HU HV HX
  go_wp2_with fail
  refine (run_turns (act9_take (z + 1) 2 0 _ (by decide) (take_does 2 2 (by decide) (by decide))) _ p q _ 5000 (0, false) HM3.out HV3.out (by omega) (by omega) (by decide) (by decide) (by decide) (by decide) bm0_len).mono ?_
  rintro e w4 ⟨rfl, hm4, hx4, ho4⟩
  rw [took0] at hx4
  have HM4 : Hid (MemIs 37 w4 p q bm1) := hm4
  have HV4 := hid hx4
  have HX4 := hid ((ho4.block _ (lt_of_block HX3.out) (by omega)).trans HX3.out)
  have HO4 : Hid (Only (fun _ => False) w w4) := HO3.out.chain ho4 (fun i hi e => by
    rcases e with e | e <;> omega)
  clear hm4 hx4 ho4 HM3 HO3 HV3 HX3
  go_wp2_with fail
  refine (run_turns (act9_take (z + 1 + 1) 2 0 _ (by decide) (take_does 2 2 (by decide) (by decide))) _ p q _ 5000 (0, false) HM4.out HX4.out (by omega) (by omega) (by decide) (by decide) (by decide) (by decide) bm1_len).mono ?_
  rintro e w5 ⟨rfl, hm5, hx5, ho5⟩
  rw [took1] at hx5
  have hv5 := (ho5.block _ (lt_of_block HV4.out) (by omega)).trans HV4.out
  have c1 : w5.cell? ⟨z + 1, 4, none⟩ = some (.bool true) := cell_of_block hv5 4
  have c3 : w5.cell? ⟨z + 1 + 1, 3, none⟩ = some (.int .i64 1) := cell_of_block hx5 3
  have c4 : w5.cell? ⟨z + 1 + 1, 4, none⟩ = some (.bool true) := cell_of_block hx5 4
  have HO5 : Hid (Only (fun _ => False) w w5) := HO4.out.chain ho5 (fun i hi e => by
    rcases e with e | e <;> omega)
  clear hm5 hx5 ho5 hv5 HM4 HX4 HO4 HV4
  go_wp2_with fail
  go_ret
  exact ⟨rfl, HO5.out.below (Nat.le_refl _) (fun _ _ h => h)⟩
end Go.Proofs.Ytipimcpkgcekcaa
