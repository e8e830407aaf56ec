/-
  septumlaw06.made makes a memory with an empty queue; septumlaw06.awake answers true; neither turns anything that was there. Conditions: none.
-/
import Derived.Test.YthihbkhgemdpdaaLook6
import Derived.Test.YthihbkhgemdpdaaSame
namespace Go.Sept
/-- A memory of 100 words with an empty queue at 5. -/
def q0 : List Int := [0, 0, 0, 0, 0, 0, 6, 6, 8, 8, 10, 10, 12, 12, 14, 14, 16, 16, 18, 18, 20, 20, 22, 22, 24, 24, 26, 26, 28, 28, 30, 30, 32, 32, 34, 34, 36, 36] ++ List.replicate 62 0
/-- The same with the node 50 of the priority 7. -/
def q1 : List Int := [0, 0, 0, 0, 0, 128, 6, 6, 8, 8, 10, 10, 12, 12, 14, 14, 16, 16, 18, 18, 50, 50, 22, 22, 24, 24, 26, 26, 28, 28, 30, 30, 32, 32, 34, 34, 36, 36, 0, 0, 0, 0, 0, 0, 0, 0, 0, 0, 0, 0, 20, 20] ++ List.replicate 48 0
end Go.Sept

namespace Go.Proofs.Ythihbkhgemdpdaa
open Go.RowKit Go.Sept

set_option maxRecDepth 100000 in
theorem alone_init : (qInitT 5 16).alone (List.replicate 100 0) = ((), q0, 33) := by decide +kernel
set_option maxRecDepth 100000 in
theorem alone_add : (qAddT 5 50 7).alone q0 = ((), q1, 7) := by decide +kernel
set_option maxRecDepth 100000 in
theorem alone_look : (lookT 50).alone q1 = ([(50, 7)], q1, 4) := by decide +kernel

/-- A body that only reads its own block, by frame.Run. -/
theorem run_reads {n m : Nat} {T : Tree Unit n} {fn U : Nat} {o : Obj} (hB : BodyIn T fn (ptrV U) (readK U o) m) (w : World) (p q : Nat) (xs ys : List Int) (k : Nat) (hm : MemIs 45 w p q xs) (hU : w.heap[U]? = some o) (n1 : U ≠ p) (n2 : U ≠ q) (ha : T.alone xs = ((), ys, k)) (hk : k ≤ 5000) (hk2 : k + 4 ≤ m) (hy : 0 < ys.length) :
    Calls Try.prog 8 #[.pointer (some ⟨p, 0, none⟩), bodyV fn (ptrV U), .int .i64 5000] w fun e w' => e = .returned (.bool true) ∧ MemIs 45 w' p q ys ∧ Only (fun k => k = q) w w' := by
  refine (hB.run_all w p q xs 5000 (.inl ⟨rfl, hm⟩) (lt_of_block hm.head) hm.row.lt hU ?_ (by rw [ha]; show (k : Int) ≤ 5000; omega) (by decide) (by decide) (by rw [ha]; exact hk2)).mono ?_
  · rintro k rfl
    exact ⟨n1, n2⟩
  · rintro e w' ⟨rfl, h1, h2, h3, h4⟩
    rw [ha] at h1
    exact ⟨rfl, holds_mem h1 hy, h4.mono (fun k _ e => e.elim (fun h => h) (fun h => h.elim))⟩

set_option maxRecDepth 100000 in
set_option maxHeartbeats 1000000 in
theorem made_rel (w : World) :
    Calls Try.prog 5 #[] w fun e w' => ∃ p q, e = .returned (.pointer (some ⟨p, 0, none⟩)) ∧ MemIs 45 w' p q q0 ∧ w.heap.size ≤ p ∧ w.heap.size ≤ q ∧ Only (fun _ => False) w w' := by
  have hmf : ∀ (fn : Fn) (first cap : Array Value) (w : World), (Instr.makeFunc fn first cap).run Try.prog w = .ok (.func fn first cap) w := fun _ _ _ _ => rfl
  go_enter Try.func5, Try.ntmps5
  go_wp2_with fail
  refine (new_rel _ _).mono ?_
  rintro e w1 ⟨p, q, rfl, hm, hp, hq, ho1⟩
  rw [show clampN 100 = 100 from clamp_nat 100 (by decide)] at hm
  have hW : ∃ W z, W = w1.alloc (actO 3 0 0) ∧ z = w1.heap.size ∧ MemIs 45 W p q (List.replicate 100 0) ∧ Only (fun _ => False) w W ∧ W.heap[z]? = some (actO 3 0 0) ∧ p < z ∧ q < z :=
    ⟨_, _, rfl, rfl, hm.alloc _, ho1.alloc _, heap_new _ _, lt_of_block hm.head, hm.row.lt⟩
  obtain ⟨W, z, hWe, hze, h1, h2, h3, zp, zq⟩ := hW
  have HM := hid h1
  have HO := hid h2
  have HU := hid h3
  clear hm ho1 h1 h2 h3
  simp only [actO] at hWe
  go_wp2_with fail
  rw [← hWe, ← hze]
  clear hWe hze
  refine (run_reads (act3_of z 0 0) _ p q _ _ _ HM.out HU.out (by omega) (by omega) alone_init (by decide) (by decide) (by decide +kernel)).mono ?_
  rintro e w3 ⟨rfl, hm3, ho3⟩
  have HE : Hid (MemIs 45 w3 p q q0 ∧ w.heap.size ≤ p ∧ w.heap.size ≤ q ∧ Only (fun _ => False) w w3) := ⟨hm3, hp, hq, HO.out.chain ho3 (fun i hi e => by omega)⟩
  clear hm3 ho3 hp hq HM HO HU
  go_wp2_with fail
  go_ret
  exact ⟨p, q, rfl, HE.out⟩

set_option maxRecDepth 100000 in
set_option maxHeartbeats 1000000 in
theorem awake6_any (w : World) :
    Calls Try.prog 4 #[] w fun e w' => e = .returned (.bool true) ∧ Below w.heap.size w w' := by
  have hmf : ∀ (fn : Fn) (first cap : Array Value) (w : World), (Instr.makeFunc fn first cap).run Try.prog w = .ok (.func fn first cap) w := fun _ _ _ _ => rfl
  go_enter Try.func4, Try.ntmps4
  go_wp2_with fail
  refine (made_rel _).mono ?_
  rintro e w1 ⟨p, q, rfl, hm, hp, hq, ho1⟩
  have hW : ∃ W z, W = (w1.alloc (actO 0 50 7)).alloc (lookO (.slice none 0 0) (.slice none 0 0)) ∧ z = w1.heap.size ∧ MemIs 45 W p q q0 ∧ Only (fun _ => False) w W ∧ W.heap[z]? = some (actO 0 50 7) ∧ W.heap[z + 1]? = some (lookO (.slice none 0 0) (.slice none 0 0)) ∧ p < z ∧ q < z ∧ w.heap.size ≤ z :=
    ⟨_, _, rfl, rfl, (hm.alloc _).alloc _, (ho1.alloc _).alloc _, (Below.heap_alloc _ _ _ (by simp)).trans (heap_new _ _), heap_new_at _ _ _ (by simp), lt_of_block hm.head, hm.row.lt, ho1.size⟩
  obtain ⟨W, z, hWe, hze, h1, h2, h3, h4, zp, zq, zw⟩ := hW
  have HM := hid h1
  have HO := hid h2
  have HU := hid h3
  have HL := hid h4
  clear hm ho1 h1 h2 h3 h4
  simp only [actO, lookO] at hWe
  go_wp2_with fail
  rw [← hWe, ← hze]
  clear hWe hze
  refine (run_reads (act0_of z 50 7) _ p q _ _ _ HM.out HU.out (by omega) (by omega) alone_add (by decide) (by decide) (by decide +kernel)).mono ?_
  rintro e w3 ⟨rfl, hm3, ho3⟩
  have HM3 := hid hm3
  have HL3 := hid ((ho3.block _ (lt_of_block HL.out) (by omega)).trans HL.out)
  have HO3 := hid (HO.out.chain ho3 (fun i hi e => by omega))
  clear hm3 ho3 HM HO HU HL
  go_wp2_with fail
  refine ((look_of (z + 1)).run_all _ p q q1 5000 (.inl ⟨rfl, HM3.out⟩) (lt_of_block HM3.out.head) HM3.out.row.lt ⟨_, _, HL3.out⟩ (fun k hk => ?_) (by rw [alone_look]; decide) (by decide) (by decide) (by rw [alone_look]; decide)).mono ?_
  · have hk' : k = z + 1 := hk
    exact ⟨by omega, by omega⟩
  rintro e w4 ⟨rfl, _, _, hp4, ho4⟩
  rw [alone_look] at hp4
  obtain ⟨gv, pv, hP, _⟩ := hp4
  obtain ⟨gb, hg⟩ := hP.g
  obtain ⟨pb, hpp⟩ := hP.p
  obtain ⟨gc, rfl, _, _, _⟩ := hg.cells (by decide)
  obtain ⟨pc, rfl, _, _, hc⟩ := hpp.cells (by decide)
  have c0 : w4.cell? ⟨z + 1, 0, none⟩ = some (.slice (some ⟨gb, 0, none⟩) 1 gc) := cell_of_block hP.blk 0
  have c1 : w4.cell? ⟨z + 1, 1, none⟩ = some (.slice (some ⟨pb, 0, none⟩) 1 pc) := cell_of_block hP.blk 1
  have c2 : w4.cell? ⟨pb, 0, none⟩ = some (.int .i64 7) := hc 0 _ rfl
  have HO4 : Hid (Only (fun _ => False) w w4) := HO3.out.chain ho4 (fun i hi e => by
    rcases e with e | e
    · omega
    · have e' : i = z + 1 := e
      omega)
  clear hP hg hpp hc ho4 HM3 HL3 HO3
  go_wp2_with fail
  go_ret
  exact ⟨rfl, HO4.out.below (Nat.le_refl _) (fun _ _ h => h)⟩
end Go.Proofs.Ythihbkhgemdpdaa
