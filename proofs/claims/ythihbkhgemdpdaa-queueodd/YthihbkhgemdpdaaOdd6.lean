/-
  QueueOdd: for every kind, every node and every priority the law answers true: with a priority that is none nothing is done, and nothing is found. Conditions: none.
-/
import Derived.Test.YthihbkhgemdpdaaAwake6
import Derived.Test.YthihbkhgemdpdaaOpens
import Derived.BigQuiet
namespace Go.Proofs.Ythihbkhgemdpdaa.queueOdd
open Go.Sept Go.RowKit Go.ChangeShapes Go.WideShapes Go.ChangeAt Go.Joins Go.Deep

theorem own : ownKnob Try.prog.godebug = none := by kernel_rfl
theorem laidOut : laidOutB Try.prog = true := by kernel_rfl

set_option maxRecDepth 100000 in
set_option maxHeartbeats 1000000 in
theorem walk_in (k n : Int) (p : Int) (w : World) (h0 : 0 ≤ p) (h1 : p < 16) :
    Calls Try.prog 3 #[.int .u8 k, .int .u8 n, .int .i64 p] w fun e w' => e = .returned (.bool true) ∧ Below w.heap.size w w' := by
  go_enter Try.func3, Try.ntmps3
  go_wp2_with fail
  refine (awake6_any _).mono ?_
  rintro e w1 ⟨rfl, hb1⟩
  have HB := hid hb1
  clear hb1
  go_wp2_with fail
  refine (awake6_any _).mono ?_
  rintro e w2 ⟨rfl, hb2⟩
  have hF : Hid (Below w.heap.size w w2) := ((Only.of_below HB.out (fun _ => False)).chain (Only.of_below hb2 (fun _ => False)) (fun _ _ h => h)).below (Nat.le_refl _) (fun _ _ h => h)
  clear HB hb2
  go_wp2_with fail
  go_ret
  exact ⟨rfl, hF.out⟩

set_option maxHeartbeats 400000 in
theorem addr_rel (w : World) (m : Nat) (hm : m < 12) : Calls Try.prog 7 #[.int .i64 (m : Int)] w fun e w' => e = .returned (.int .i64 (50 + 2 * (m : Int))) ∧ w' = w := by
  go_enter Try.func7, Try.ntmps7
  go_wp2
  go_ret
  refine ⟨?_, rfl⟩
  first | rfl | go_num

/-- A call with a priority that is none, by frame.Run. -/
theorem run_odd (w : World) (p q U : Nat) (k : Nat) (a b : Int) (xs : List Int) (hk : k < 3) (hb : ¬ (0 ≤ b ∧ b < 16)) (hm : MemIs 45 w p q xs) (hU : w.heap[U]? = some (actO (k : Int) a b)) (n1 : U ≠ p) (n2 : U ≠ q) (hy : 0 < xs.length) :
    Calls Try.prog 8 #[.pointer (some ⟨p, 0, none⟩), bodyV 9 (ptrV U), .int .i64 5000] w fun e w' => e = .returned (.bool true) ∧ MemIs 45 w' p q xs ∧ Only (fun k => k = q) w w' := by
  obtain rfl | rfl | rfl : k = 0 ∨ k = 1 ∨ k = 2 := by omega
  · exact run_reads (act0_of U a b) w p q xs xs 0 hm hU n1 n2 (by rw [qAddT, if_neg hb, Tree.alone_ret]) (by decide) (by decide) hy
  · exact run_reads (act1_of U a b hb) w p q xs xs 0 hm hU n1 n2 (Tree.alone_ret _ _) (by decide) (by decide) hy
  · exact run_reads (act2_of U a b hb) w p q xs xs 0 hm hU n1 n2 (Tree.alone_ret _ _) (by decide) (by decide) hy

theorem alone_after (a b : Int) (hb : ¬ (0 ≤ b ∧ b < 16)) : (qAfterT 5 a b).alone q0 = ((0, 0, false), q0, 0) := by rw [qAfterT, if_neg hb, Tree.alone_ret]

set_option maxRecDepth 100000 in
set_option maxHeartbeats 2000000 in
theorem walk_out (k n : Nat) (p : Int) (w : World) (hk : k ≤ 255) (hn : n ≤ 255) (hp : ¬ (0 ≤ p ∧ p < 16)) :
    Calls Try.prog 3 #[.int .u8 (k : Int), .int .u8 (n : Int), .int .i64 p] w fun e w' => e = .returned (.bool true) ∧ Below w.heap.size w w' := by
  have hmf : ∀ (fn : Fn) (first cap : Array Value) (w : World), (Instr.makeFunc fn first cap).run Try.prog w = .ok (.func fn first cap) w := fun _ _ _ _ => rfl
  obtain ⟨k3, hk3⟩ : ∃ k3, k3 = k % 3 := ⟨_, rfl⟩
  obtain ⟨m, hm⟩ : ∃ m, m = n % 12 := ⟨_, rfl⟩
  have e1 : (k : Int) % 3 = (k3 : Int) := by omega
  have e2 : (n : Int) % 12 = (m : Int) := by omega
  have HK : Hid (k3 < 3) := by show _ < _; omega
  have HMM : Hid (m < 12) := by show _ < _; omega
  have HP := hid hp
  have hcase : (p < 0) ∨ (0 ≤ p ∧ 16 ≤ p) := by omega
  obtain ⟨aa, haa⟩ : ∃ aa : Int, 50 + 2 * (m : Int) = aa := ⟨_, rfl⟩
  have HAD : Hid (∀ w : World, Calls Try.prog 7 #[.int .i64 (m : Int)] w fun e w' => e = .returned (.int .i64 aa) ∧ w' = w) := fun w => by
    rw [← haa]
    exact addr_rel w m HMM.out
  clear hk3 hm hp haa
  rcases hcase with hc | ⟨hc, hc2⟩
  all_goals
    go_enter Try.func3, Try.ntmps3
    go_wp2_with fail
    refine (awake6_any _).mono ?_
    rintro e w1 ⟨rfl, hb1⟩
    have HB := hid (Only.of_below hb1 (fun _ => False))
    clear hb1
    go_wp2_with fail
    refine (made_rel _).mono ?_
    rintro e w2 ⟨pp, q, rfl, hm2, hp2, hq2, ho2⟩
    have HM2 := hid hm2
    have HO2 := hid (HB.out.chain ho2 (fun _ _ h => h))
    have HL2 : Hid (w.heap.size ≤ pp ∧ w.heap.size ≤ q) := by have := HB.out.size; exact ⟨by omega, by omega⟩
    clear hm2 ho2 HB hp2 hq2
    go_wp2_with fail
    refine (words_rel_pos _ pp q q0 HM2.out (by decide +kernel) (by decide +kernel)).mono ?_
    rintro e w3 ⟨b3, rfl, hr3, hb3, ho3⟩
    rw [show q0.length = 100 by decide +kernel]
    have HM3 := hid (HM2.out.only ho3 (fun h => h) (fun h => h))
    have HR3 := hid hr3
    have HO3 := hid (HO2.out.chain ho3 (fun _ _ h => h))
    have HQ3 : Hid (b3 ≠ q ∧ b3 ≠ pp) := by
      have z1 := HM2.out.row.lt
      have z2 := lt_of_block HM2.out.head
      exact ⟨by omega, by omega⟩
    clear hr3 hb3 ho3 HM2 HO2
    go_wp2_with fail
    refine (HAD.out _).mono ?_
    rintro e w4 ⟨rfl, rfl⟩
    have hW : ∃ W z, W = (w4.alloc (actO (k3 : Int) aa p)).alloc (afterO aa p (0, 0, false)) ∧ z = w4.heap.size ∧ MemIs 45 W pp q q0 ∧ RowIs W b3 q0 ∧ Only (fun _ => False) w W ∧ W.heap[z]? = some (actO (k3 : Int) aa p) ∧ W.heap[z + 1]? = some (afterO aa p (0, 0, false)) ∧ pp < z ∧ q < z ∧ b3 < z ∧ w.heap.size ≤ z :=
      ⟨_, _, rfl, rfl, (HM3.out.alloc _).alloc _, HR3.out.only (((Only.refl (fun _ => False) w4).alloc _).alloc _) (fun h => h), (HO3.out.alloc _).alloc _, (Below.heap_alloc _ _ _ (by simp)).trans (heap_new _ _), heap_new_at _ _ _ (by simp), lt_of_block HM3.out.head, HM3.out.row.lt, HR3.out.lt, HO3.out.size⟩
    obtain ⟨W, z, hWe, hze, h1, h2, h3, h4, h5, zp, zq, zb, zw⟩ := hW
    have HM := hid h1
    have HR := hid h2
    have HO := hid h3
    have HU := hid h4
    have HV := hid h5
    clear h1 h2 h3 h4 h5 HM3 HR3 HO3
    simp only [actO, afterO] at hWe
    go_wp2_with fail
    refine (HAD.out _).mono ?_
    rintro e w5 ⟨rfl, rfl⟩
    go_wp2_with fail
    rw [← hWe, ← hze]
    clear hWe hze
    refine (run_odd _ pp q z k3 aa p q0 HK.out HP.out HM.out HU.out (by omega) (by omega) (by decide +kernel)).mono ?_
    rintro e w6 ⟨rfl, hm6, ho6⟩
    have HM6 := hid hm6
    have HV6 := hid ((ho6.block _ (lt_of_block HV.out) (by omega)).trans HV.out)
    have HR6 := hid (HR.out.only ho6 HQ3.out.1)
    have HO6 := hid (HO.out.chain ho6 (fun i hi e => by have := HL2.out; omega))
    clear hm6 ho6 HM HR HO HU HV
    go_wp2_with fail
    refine ((after_of (z + 1) aa p).run_all _ pp q q0 5000 (.inl ⟨rfl, HM6.out⟩) (lt_of_block HM6.out.head) HM6.out.row.lt ⟨_, HV6.out⟩ (fun k hk => ?_) (by rw [alone_after aa p HP.out]; decide) (by decide) (by decide) (by rw [alone_after aa p HP.out]; decide)).mono ?_
    · have hk' : k = z + 1 := hk
      exact ⟨by omega, by omega⟩
    rintro e w7 ⟨rfl, hm7, _, hp7, ho7⟩
    rw [alone_after aa p HP.out] at hm7 hp7
    have hp7' : w7.heap[z + 1]? = some (afterO aa p (0, 0, false)) := hp7
    have HM7 := hid (holds_mem hm7 (by decide +kernel))
    have c2 : w7.cell? ⟨z + 1, 2, none⟩ = some (.int .i64 0) := Sept.cell_of_block hp7' 2
    have c3 : w7.cell? ⟨z + 1, 3, none⟩ = some (.int .i64 0) := Sept.cell_of_block hp7' 3
    have c4 : w7.cell? ⟨z + 1, 4, none⟩ = some (.bool false) := Sept.cell_of_block hp7' 4
    have HR7 : Hid (RowIs w7 b3 q0) := HR6.out.only ho7 (fun e => by
      rcases e with e | e
      · exact HQ3.out.1 e
      · have e' : b3 = z + 1 := e
        omega)
    have HO7 : Hid (Only (fun _ => False) w w7) := HO6.out.chain ho7 (fun i hi e => by
      rcases e with e | e
      · have := HL2.out
        omega
      · have e' : i = z + 1 := e
        omega)
    clear hm7 hp7 hp7' ho7 HM6 HV6 HR6 HO6
    go_wp2_with fail
    refine (words_rel_pos _ pp q q0 HM7.out (by decide +kernel) (by decide +kernel)).mono ?_
    rintro e w8 ⟨b8, rfl, hr8, hb8, ho8⟩
    rw [show q0.length = 100 by decide +kernel]
    have hsame := same_words w8 _ _ 100 100 _ _ q0 hr8.sees (HR7.out.only ho8 (fun h => h)).sees (by decide +kernel)
    rw [show q0.length = 100 by decide +kernel] at hsame
    have HSA := hid hsame
    have HO8 := hid (HO7.out.chain ho8 (fun _ _ h => h))
    clear hsame hr8 hb8 ho8 HM7 HR7 HO7 c2 c3 c4
    go_wp2_with fail
    refine HSA.out.mono ?_
    rintro e w9 ⟨rfl, nn, rfl⟩
    have HO9 := hid (only_drewN HO8.out nn)
    clear HSA HO8
    go_wp2_with fail
    go_ret
    exact ⟨rfl, HO9.out.below (Nat.le_refl _) (fun _ _ h => h)⟩

theorem walk (k n : Nat) (p : Int) (w : World) (hk : k ≤ 255) (hn : n ≤ 255) :
    Calls Try.prog 3 #[.int .u8 (k : Int), .int .u8 (n : Int), .int .i64 p] w fun e w' => e = .returned (.bool true) ∧ Below w.heap.size w w' := by
  by_cases h : 0 ≤ p ∧ p < 16
  · exact walk_in k n p w h.1 h.2
  · exact walk_out k n p w hk hn h

set_option maxRecDepth 100000 in
theorem lifted (os : Os) (started : os.Started) (H : Type) (enc : TypeId × Value → H) :
    ReturnsInHanded {} Try.checked os 3 .any (Rows.queueOddSpec.pre6 enc Try.prog Try.f3 Rows.queueOddRow.domain false) (Rows.queueOddSpec.post enc Try.prog Try.f3 false true false false) := by
  refine returnsInHanded_of_change (C := Try.checked) own started (by kernel_rfl) Try.func3
    (ChangeSpec.witness6 (enc := enc) (C := Try.checked) false ⟨#[], #[.int .u8 0, .int .u8 0, .int .i64 0], []⟩ 8 (by kernel_rfl) (by kernel_rfl) (by kernel_rfl) (by kernel_rfl)) ?_
  intro W base args ds gs before hval0 hW hcnd _
  have hval : ∀ (j : Nat) t v, Try.f3.params[j]? = some t → args[j]? = some v → Value.okWide Try.prog W .any base t v := hval0
  have hW' := hW
  obtain ⟨p, q, hA0, hV, rfl, hfz, hnd⟩ := hW
  have hA : DataW.TrodAll enc Try.prog W 0 (fun _ => true) true Try.f3.params.toList args.toList ds p := hA0
  rw [Try.params3] at hA hval
  obtain ⟨v0, vs0, d0, ds0, p0, q0, hargs, rfl, rfl, h0, r0⟩ := trodAll_cons hA
  obtain ⟨v1, vs1, d1, ds1, p1, q1, rfl, rfl, rfl, h1, r1⟩ := trodAll_cons r0
  obtain ⟨v2, vs2, d2, ds2, p2, q2, rfl, rfl, rfl, h2, r2⟩ := trodAll_cons r1
  obtain ⟨rfl, rfl, rfl⟩ := trodAll_nil r2
  obtain rfl : args = #[v0, v1, v2] := by cases args; simp_all
  obtain ⟨a0, rfl, rfl, rfl, w0⟩ := open_int Try.underlying5 (hval 0 5 v0 rfl rfl) h0
  obtain ⟨a1, rfl, rfl, rfl, w1⟩ := open_int Try.underlying5 (hval 1 5 v1 rfl rfl) h1
  obtain ⟨a2, rfl, rfl, rfl, w2⟩ := open_int Try.underlying3 (hval 2 3 v2 rfl rfl) h2
  obtain ⟨k, rfl, hk⟩ : ∃ m : Nat, a0 = m ∧ m ≤ 255 := by
    have := bounds_u8 w0
    exact ⟨a0.toNat, by omega, by omega⟩
  obtain ⟨n, rfl, hn⟩ : ∃ m : Nat, a1 = m ∧ m ≤ 255 := by
    have := bounds_u8 w1
    exact ⟨a1.toNat, by omega, by omega⟩
  refine (walk k n a2 W hk hn).mono fun e W' ⟨he, hg⟩ => ?_
  subst he
  exact ⟨_, rfl, post_law 3 4 laidOut (by kernel_rfl) rfl rfl rfl Try.underlying4 (fun l hl => by match l, hl with | [_, _, _], _ => rfl) hW' hg⟩

theorem over : Rows.queueOddRow.holds Try.pinned (OpenSpec.ofChange Rows.queueOddSpec) :=
  OpenClaim.holds_of_wide 3 Try.f3 rfl rfl rfl rfl rfl rfl rfl ⟨rfl, rfl, rfl, rfl, rfl⟩ rfl rfl rfl rfl rfl (by kernel_rfl) Try.func3 (by kernel_rfl)
    (of_decide_eq_true (by kernel_rfl)) (by unfold Func.isWrapper; first | (rw [if_pos (by decide +kernel)]; kernel_rfl) | (rw [if_neg (by decide +kernel)]; exact ⟨rfl, rfl⟩))
    (fun os started H enc _ => lifted os started H enc)

theorem proved : Rows.QueueOddSaid := over
#print axioms proved
end Go.Proofs.Ythihbkhgemdpdaa.queueOdd
