/-
  septumlaw08.awake answers true, and turns nothing that was there. Conditions: none.
-/
import Derived.Test.YtdoihlnipajniaaBody8
import Derived.Test.YtdoihlnipajniaaMath8
namespace Go.Proofs.Ytdoihlnipajniaa
open Go.RowKit Go.Sept

theorem new_at (w : World) (o : Obj) (k : Nat) (h : k = w.heap.size) : (w.alloc o).heap[k]? = some o := by
  subst h
  exact heap_new w o

set_option maxRecDepth 100000 in
set_option maxHeartbeats 1000000 in
theorem awake8_any (w : World) :
    Calls Try.prog 7 #[] w fun e w' => e = .returned (.bool true) ∧ Below w.heap.size w w' := by
  have hmf : ∀ (fn : Fn) (first cap : Array Value) (w : World), (Instr.makeFunc fn first cap).run Try.prog w = .ok (.func fn first cap) w := fun _ _ _ _ => rfl
  go_enter Try.func7, Try.ntmps7
  go_wp2_with fail
  refine (new_rel _ _).mono ?_
  rintro e w1 ⟨p, q, rfl, hm, hp, hq, ho1⟩
  rw [show clampN 30 = 30 from clamp_nat 30 (by decide)] at hm
  have hW : ∃ W z, W = (w1.alloc (act8O 0 2 9 0 false 0)).alloc (act8O 1 2 0 0 false 0) ∧ z = w1.heap.size ∧ MemIs 49 W p q (List.replicate 30 0) ∧ Only (fun _ => False) w W ∧ W.heap[z]? = some (act8O 0 2 9 0 false 0) ∧ W.heap[z + 1]? = some (act8O 1 2 0 0 false 0) ∧ p < z ∧ q < z ∧ w.heap.size ≤ z :=
    ⟨_, _, rfl, rfl, (hm.alloc _).alloc _, (ho1.alloc _).alloc _, (Below.heap_alloc _ _ _ (by simp)).trans (heap_new _ _), new_at _ _ _ (by simp), lt_of_block hm.head, hm.row.lt, ho1.size⟩
  obtain ⟨W, z, hWe, hze, h1, h2, h3, h4, zp, zq, zw⟩ := hW
  have HM := hid h1
  have HO := hid h2
  have HU := hid h3
  have HV := hid h4
  clear hm ho1 h1 h2 h3 h4
  simp only [act8O] at hWe
  go_wp2_with fail
  rw [← hWe, ← hze]
  clear hWe hze
  refine (ringWords_in _ 2 (by decide) (by decide)).mono ?_
  rintro e w2 ⟨rfl, rfl⟩
  obtain ⟨ys, hal, hR⟩ := (ring_new (c := 2)).put_room (by decide) (by decide) (by decide) (by decide) 9
  obtain ⟨zs, hal2, _⟩ := hR.get_some (by decide) (by decide) (by decide)
  have HAL := hid hal
  have HAL2 := hid hal2
  have HLY : Hid (0 < ys.length) := by show 0 < _; rw [hR.len]; decide
  clear hal hal2 hR
  go_wp2_with fail
  refine (run_turns (act8_put z 2 9 _ (by decide) (put_does 3 2 9 (by decide) (by decide))) _ p q _ 5000 false HM.out HU.out (by omega) (by omega) (by decide) (by decide) (by decide) (by decide) (by decide)).mono ?_
  rintro e w3 ⟨rfl, hm3, _, ho3⟩
  rw [show (putT 3 2 9).alone (List.replicate 30 0) = (true, ys, 4) from HAL.out] at hm3
  have HM3 : Hid (MemIs 49 w3 p q ys) := hm3
  have HV3 := hid ((ho3.block _ (lt_of_block HV.out) (by omega)).trans HV.out)
  have HO3 := hid (HO.out.chain ho3 (fun i hi e => by omega))
  clear hm3 ho3 HM HO HU HV
  go_wp2_with fail
  refine (run_turns (act8_get (z + 1) 2 0 _ (by decide) (get_does 3 2 (by decide) (by decide))) _ p q _ 5000 (0, false) HM3.out HV3.out (by omega) (by omega) (by decide) (by decide) (by decide) (by decide) HLY.out).mono ?_
  rintro e w4 ⟨rfl, _, hx4, ho4⟩
  rw [show (getT 3 2).alone ys = ((9, true), zs, 4) from HAL2.out] at hx4
  have c3 : w4.cell? ⟨z + 1, 3, none⟩ = some (.int .i64 9) := cell_of_block hx4 3
  have c4 : w4.cell? ⟨z + 1, 4, none⟩ = some (.bool true) := cell_of_block hx4 4
  have HO4 : Hid (Only (fun _ => False) w w4) := HO3.out.chain ho4 (fun i hi e => by
    rcases e with e | e <;> omega)
  clear hx4 ho4 HM3 HV3 HO3
  go_wp2_with fail
  go_ret
  exact ⟨rfl, HO4.out.below (Nat.le_refl _) (fun _ _ h => h)⟩
end Go.Proofs.Ytdoihlnipajniaa
