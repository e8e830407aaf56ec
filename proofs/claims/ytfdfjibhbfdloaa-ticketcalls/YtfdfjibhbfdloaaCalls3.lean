/-
  septumlaw03.TicketCalls answers true for every input: each call of package ticket does one access, and what the document says. Conditions: none.
-/
import Derived.Test.YtfdfjibhbfdloaaAwake3
import Derived.Test.YtfdfjibhbfdloaaOne3
import Derived.Test.YtfdfjibhbfdloaaLift
import Derived.Lib.SmallJoins
import Derived.OpenShut
namespace Go.Proofs.Ytfdfjibhbfdloaa.ticketCalls
open Go.Sept Go.RowKit Go.ChangeShapes Go.WideShapes Go.ChangeAt Go.Joins Go.Deep

theorem own : ownKnob Try.prog.godebug = none := by kernel_rfl
theorem laidOut : laidOutB Try.prog = true := by kernel_rfl

/-- A body of a single access, run. -/
theorem run_one {α : Type} {m : Nat} {T : Tree α m} {fn : Nat} {cellsOf : α → Array Value} {tu : TypeId} (hB : BodyOf T fn cellsOf tu 100) (w : World) (p q U : Nat) (xs : List Int) (r : α) (hm : MemIs 74 w p q xs) (hU : w.heap[U]? = some (.cells (cellsOf r) tu)) (n1 : U ≠ p) (n2 : U ≠ q) {x : α} {ys : List Int} (ha : T.alone xs = (x, ys, 1)) (hp : 0 < ys.length) :
    Calls Try.prog 22 #[.pointer (some ⟨p, 0, none⟩), methV fn U, .int .i64 1] w fun e w' => e = .returned (.bool true) ∧ MemIs 74 w' p q ys ∧ w'.heap[U]? = some (.cells (cellsOf x) tu) ∧ Only (fun k => k = q ∨ k = U) w w' := by
  refine (hB.run_all w p q U xs r 1 (.inl ⟨rfl, hm⟩) (lt_of_block hm.head) hm.row.lt hU n1 n2 (by rw [ha]; show (1 : Int) ≤ 1; decide) (by decide) (by decide) (by rw [ha]; show 1 + 4 ≤ 100; decide)).mono ?_
  rintro e w' ⟨rfl, h1, h2, h3⟩
  rw [ha] at h1 h2
  exact ⟨rfl, holds_mem h1 hp, h2, h3⟩

theorem alone_draw (x s : Int) : (drawT 1).alone [0, x, s] = (x, [0, wrap64 (x + 1), s], 1) := rfl
theorem alone_served (x s t : Int) : (servedT 1 t).alone [0, x, s] = ((s == t), [0, x, s], 1) := by
  unfold servedT
  rw [show wrap64 ((1 : Int) + 1) = 2 by decide +kernel]
  rfl
theorem alone_leave (x s t : Int) : (leaveT 1 t).alone [0, x, s] = ((), [0, x, wrap64 (t + 1)], 1) := by
  unfold leaveT
  rw [show wrap64 ((1 : Int) + 1) = 2 by decide +kernel]
  rfl

set_option maxRecDepth 100000 in
set_option maxHeartbeats 1000000 in
theorem walk (next served number : Int) (w : World) :
    Calls Try.prog 7 #[.int .i64 next, .int .i64 served, .int .i64 number] w fun e w' => e = .returned (.bool true) ∧ Below w.heap.size w w' := by
  have hmf : ∀ (fn : Fn) (first cap : Array Value) (w : World), (Instr.makeFunc fn first cap).run Try.prog w = .ok (.func fn first cap) w := fun _ _ _ _ => rfl
  go_enter Try.func7, Try.ntmps7
  go_wp2_with fail
  refine (awake3_any _).mono ?_
  rintro e w0 ⟨rfl, hb0⟩
  have HO0 := hid (Only.of_below hb0 (fun _ => False))
  clear hb0
  go_wp2_with fail
  refine (new_rel _ _).mono ?_
  rintro e w1 ⟨p, q, rfl, hm, hp, hq, ho1⟩
  rw [show clampN 3 = 3 from clamp_nat 3 (by decide)] at hm
  have HM := hid hm
  have HO1 := hid (HO0.out.chain ho1 (fun _ _ h => h))
  have lz : w.heap.size ≤ w0.heap.size := HO0.out.size
  have lp : w.heap.size ≤ p := by omega
  have lq : w.heap.size ≤ q := by omega
  clear hm ho1 HO0 lz hp hq
  go_wp2_with fail
  refine (store_rel _ p q _ HM.out 1 (by decide) next).mono ?_
  rintro e w2 ⟨rfl, hm2, ho2⟩
  have HM2 := hid hm2
  have HO2 := hid (HO1.out.chain ho2 (fun i hi e => by omega))
  clear hm2 ho2 HM HO1
  go_wp2_with fail
  refine (store_rel _ p q _ HM2.out 2 (by simp) served).mono ?_
  rintro e w3 ⟨rfl, hm3, ho3⟩
  have HM3 : Hid (MemIs 74 w3 p q [0, next, served]) := hm3
  have HO3 := hid (HO2.out.chain ho3 (fun i hi e => by omega))
  clear hm3 ho3 HM2 HO2
  go_wp2_with fail
  have hW : ∃ W z, W = ((w3.alloc (.cells (oneCells 0 1 0 0 false) 66)).alloc (.cells (oneCells 1 1 number 0 false) 66)).alloc (.cells (oneCells 2 1 number 0 false) 66) ∧ z = w3.heap.size ∧ MemIs 74 W p q [0, next, served] ∧ Only (fun _ => False) w W ∧
      W.heap[z]? = some (.cells (oneCells 0 1 0 0 false) 66) ∧ W.heap[z + 1]? = some (.cells (oneCells 1 1 number 0 false) 66) ∧ W.heap[z + 2]? = some (.cells (oneCells 2 1 number 0 false) 66) ∧ p < z ∧ q < z ∧ w.heap.size ≤ z := by
    refine ⟨_, _, rfl, rfl, ?_, ?_, ?_, ?_, ?_, lt_of_block HM3.out.head, HM3.out.row.lt, HO3.out.size⟩
    · exact ((HM3.out.alloc _).alloc _).alloc _
    · exact ((HO3.out.alloc _).alloc _).alloc _
    · rw [Below.heap_alloc _ _ _ (by simp; omega), Below.heap_alloc _ _ _ (by simp)]
      exact heap_new _ _
    · rw [Below.heap_alloc _ _ _ (by simp)]
      have h9 := heap_new (w3.alloc (.cells (oneCells 0 1 0 0 false) 66)) (.cells (oneCells 1 1 number 0 false) 66)
      rwa [World.size_alloc] at h9
    · have h9 := heap_new ((w3.alloc (.cells (oneCells 0 1 0 0 false) 66)).alloc (.cells (oneCells 1 1 number 0 false) 66)) (.cells (oneCells 2 1 number 0 false) 66)
      rwa [World.size_alloc, World.size_alloc] at h9
  obtain ⟨W, z, hWe, hze, h1, h2, h3, h4, h5, zp, zq, zw⟩ := hW
  rw [← hWe, ← hze]
  have HM4 := hid h1
  have HO4 := hid h2
  have HA := hid h3
  have HB := hid h4
  have HC := hid h5
  clear hWe hze h1 h2 h3 h4 h5 HM3 HO3
  refine (run_one (one_draw 1 0) _ p q z _ 0 HM4.out HA.out (by omega) (by omega) (alone_draw next served) (by simp)).mono ?_
  rintro e w5 ⟨rfl, hm5, ha5, ho5⟩
  have HM5 := hid hm5
  have HA5 := hid ha5
  have HB5 := hid ((ho5.block _ (lt_of_block HB.out) (by omega)).trans HB.out)
  have HC5 := hid ((ho5.block _ (lt_of_block HC.out) (by omega)).trans HC.out)
  have HO5 := hid (HO4.out.chain ho5 (fun i hi e => by omega))
  clear hm5 ha5 ho5 HM4 HO4 HA HB HC
  go_wp2_with fail
  refine (run_one (one_served 1 number) _ p q (z + 1) _ false HM5.out HB5.out (by omega) (by omega) (alone_served _ _ _) (by simp)).mono ?_
  rintro e w6 ⟨rfl, hm6, hb6, ho6⟩
  have HM6 := hid hm6
  have HA6 := hid ((ho6.block _ (lt_of_block HA5.out) (by omega)).trans HA5.out)
  have HB6 := hid hb6
  have HC6 := hid ((ho6.block _ (lt_of_block HC5.out) (by omega)).trans HC5.out)
  have HO6 := hid (HO5.out.chain ho6 (fun i hi e => by omega))
  clear hm6 hb6 ho6 HM5 HO5 HA5 HB5 HC5
  go_wp2_with fail
  refine (run_one (one_leave 1 number) _ p q (z + 2) _ () HM6.out HC6.out (by omega) (by omega) (alone_leave _ _ _) (by simp)).mono ?_
  rintro e w7 ⟨rfl, hm7, hc7, ho7⟩
  have HM7 := hid hm7
  have c3 : w7.cell? ⟨z, 3, none⟩ = some (.int .i64 next) := Sept.cell_of_block ((ho7.block _ (lt_of_block HA6.out) (by omega)).trans HA6.out) 3
  have c4 : w7.cell? ⟨z + 1, 4, none⟩ = some (.bool (served == number)) := Sept.cell_of_block ((ho7.block _ (lt_of_block HB6.out) (by omega)).trans HB6.out) 4
  have HO7 := hid (HO6.out.chain ho7 (fun i hi e => by omega))
  have lA : z < w7.heap.size := Nat.lt_of_lt_of_le (lt_of_block HA6.out) ho7.size
  have lB : z + 1 < w7.heap.size := Nat.lt_of_lt_of_le (lt_of_block HB6.out) ho7.size
  clear hm7 hc7 ho7 HM6 HO6 HA6 HB6 HC6
  go_wp2_with fail
  refine (words_rel_pos _ p q _ HM7.out (by simp) (by simp)).mono ?_
  rintro e w8 ⟨b, rfl, hr8, hb8, ho8⟩
  have d0 : w8.cell? ⟨b, 0, none⟩ = some (.int .i64 0) := hr8.cell 0 (by simp)
  have d1 : w8.cell? ⟨b, 1, none⟩ = some (.int .i64 (wrap64 (next + 1))) := hr8.cell 1 (by simp)
  have d2 : w8.cell? ⟨b, 2, none⟩ = some (.int .i64 (wrap64 (number + 1))) := hr8.cell 2 (by simp)
  have e3 : w8.cell? ⟨z, 3, none⟩ = some (.int .i64 next) := (World.cell?_of_block (ho8.block z lA (fun h => h))).trans c3
  have e4 : w8.cell? ⟨z + 1, 4, none⟩ = some (.bool (served == number)) := (World.cell?_of_block (ho8.block (z + 1) lB (fun h => h))).trans c4
  have HO8 := hid (HO7.out.chain ho8 (fun _ _ h => h))
  clear hr8 hb8 ho8 HM7 HO7 c3 c4 lA lB zp zq zw lp lq
  go_wp2_with fail
  go_ret
  exact ⟨by simp, HO8.out.below (Nat.le_refl _) (fun _ _ h => h)⟩

set_option maxRecDepth 100000 in
theorem lifted (os : Os) (started : os.Started) (H : Type) (enc : TypeId × Value → H) :
    ReturnsInHanded {} Try.checked os 7 .any (Rows.ticketCallsSpec.pre6 enc Try.prog Try.f7 Rows.ticketCallsRow.domain false) (Rows.ticketCallsSpec.post enc Try.prog Try.f7 false true false false) := by
  refine returnsInHanded_of_change (C := Try.checked) own started (by kernel_rfl) Try.func7
    (ChangeSpec.witness6 (enc := enc) (C := Try.checked) false ⟨#[], #[.int .i64 0, .int .i64 0, .int .i64 0], []⟩ 8 (by kernel_rfl) (by kernel_rfl) (by kernel_rfl) (by kernel_rfl)) ?_
  intro W base args ds gs before hval0 hW hcnd _
  have hval : ∀ (j : Nat) t v, Try.f7.params[j]? = some t → args[j]? = some v → Value.okWide Try.prog W .any base t v := hval0
  have hW' := hW
  obtain ⟨p, q, hA0, hV, rfl, hfz, hnd⟩ := hW
  have hA : DataW.TrodAll enc Try.prog W 0 (fun _ => true) true Try.f7.params.toList args.toList ds p := hA0
  rw [Try.params7] at hA hval
  obtain ⟨v0, vs0, d0, ds0, p0, q0, hargs, rfl, rfl, h0, r0⟩ := trodAll_cons hA
  obtain ⟨v1, vs1, d1, ds1, p1, q1, rfl, rfl, rfl, h1, r1⟩ := trodAll_cons r0
  obtain ⟨v2, vs2, d2, ds2, p2, q2, rfl, rfl, rfl, h2, r2⟩ := trodAll_cons r1
  obtain ⟨rfl, rfl, rfl⟩ := trodAll_nil r2
  obtain rfl : args = #[v0, v1, v2] := by cases args; simp_all
  obtain ⟨x0, rfl, rfl, rfl, _⟩ := open_int Try.underlying2 (hval 0 2 v0 rfl rfl) h0
  obtain ⟨x1, rfl, rfl, rfl, _⟩ := open_int Try.underlying2 (hval 1 2 v1 rfl rfl) h1
  obtain ⟨x2, rfl, rfl, rfl, _⟩ := open_int Try.underlying2 (hval 2 2 v2 rfl rfl) h2
  refine (walk x0 x1 x2 W).mono fun e W' ⟨he, hg⟩ => ?_
  subst he
  exact ⟨_, rfl, post_law 3 4 laidOut (by kernel_rfl) rfl rfl rfl Try.underlying4 (fun l hl => by match l, hl with | [_, _, _], _ => rfl) hW' hg⟩

theorem over : Rows.ticketCallsRow.holds Try.pinned (OpenSpec.ofChange Rows.ticketCallsSpec) :=
  OpenClaim.holds_of_wide 7 Try.f7 rfl rfl rfl rfl rfl rfl rfl ⟨rfl, rfl, rfl, rfl, rfl⟩ rfl rfl rfl rfl rfl (by kernel_rfl) Try.func7 (by kernel_rfl)
    (of_decide_eq_true (by kernel_rfl)) (by unfold Func.isWrapper; first | (rw [if_pos (by decide +kernel)]; kernel_rfl) | (rw [if_neg (by decide +kernel)]; exact ⟨rfl, rfl⟩))
    (fun os started H enc _ => lifted os started H enc)

theorem proved : Rows.TicketCallsSaid := over
#print axioms proved
end Go.Proofs.Ytfdfjibhbfdloaa.ticketCalls
