/-
  RingCosts: for every three numbers the law answers true: each call does as many accesses as the document says. Conditions: none.
-/
import Derived.Test.YtdoihlnipajniaaPace8
import Derived.Test.YtdoihlnipajniaaOpens
namespace Go.Proofs.Ytdoihlnipajniaa.ringCosts
open Go.Sept Go.RowKit Go.ChangeShapes Go.WideShapes Go.ChangeAt Go.Joins Go.Deep

theorem own : ownKnob Try.prog.godebug = none := by kernel_rfl
theorem laidOut : laidOutB Try.prog = true := by kernel_rfl

set_option maxRecDepth 100000 in
set_option maxHeartbeats 2000000 in
theorem walk (a b k : Nat) (w : World) (ha : a ≤ 255) (hb : b ≤ 255) (hk : k ≤ 255) :
    Calls Try.prog 6 #[.int .u8 a, .int .u8 b, .int .u8 k] w fun e w' => e = .returned (.bool true) ∧ Below w.heap.size w w' := by
  have hmf : ∀ (fn : Fn) (first cap : Array Value) (w : World), (Instr.makeFunc fn first cap).run Try.prog w = .ok (.func fn first cap) w := fun _ _ _ _ => rfl
  go_enter Try.func6, Try.ntmps6
  go_wp2_with fail
  refine (awake8_any _).mono ?_
  rintro e w1 ⟨rfl, hb1⟩
  have HB := hid (Only.of_below hb1 (fun _ => False))
  clear hb1
  go_wp2_with fail
  refine (new_rel _ _).mono ?_
  rintro e w2 ⟨p, q, rfl, hm, hp, hq, ho2⟩
  rw [show clampN 30 = 30 from clamp_nat 30 (by decide)] at hm
  obtain ⟨c, hc⟩ : ∃ c : Nat, 1 + (a : Int) % 16 = (c : Int) := ⟨1 + a % 16, by omega⟩
  have hc1 : 1 ≤ c := by omega
  have hc16 : c ≤ 16 := by omega
  rw [hc]
  obtain ⟨n, hn⟩ : ∃ n : Nat, (b : Int) % ((c : Int) + 1) = (n : Int) := ⟨b % (c + 1), by simp⟩
  have hnc : n ≤ c := by
    have := Int.emod_lt_of_pos (b : Int) (show 0 < (c : Int) + 1 by omega)
    omega
  rw [hn]
  have HM := hid hm
  have HO := hid (HB.out.chain ho2 (fun _ _ h => h))
  have zp : w.heap.size ≤ p := by have := HB.out.size; omega
  have zq : w.heap.size ≤ q := by have := HB.out.size; omega
  clear hm ho2 HB hp hq hc hn ha hb
  go_wp2_with fail
  go_loopw [28] (fun i wx => ∃ (j : Nat) (xs : List Int), i = .int .i64 (j : Int) ∧ j ≤ n ∧ MemIs 49 wx p q xs ∧ Rg c 0 (List.replicate j 0) xs ∧ Only (fun _ => False) w wx) (fun i _ => n - (intOf i).toNat)
  case atStart => exact ⟨0, _, rfl, Nat.zero_le _, HM.out, ring_new, HO.out⟩
  case round =>
    obtain ⟨j, xs, rfl, hj, hm, hR, ho⟩ := hrel
    clear HM HO
    by_cases hlt : (j : Int) < n
    · have hW : ∃ W z, W = wr.alloc (act8O 0 c 0 0 false 0) ∧ z = wr.heap.size ∧ MemIs 49 W p q xs ∧ Only (fun _ => False) w W ∧ W.heap[z]? = some (act8O 0 c 0 0 false 0) ∧ p < z ∧ q < z ∧ w.heap.size ≤ z :=
        ⟨_, _, rfl, rfl, hm.alloc _, ho.alloc _, heap_new _ _, lt_of_block hm.head, hm.row.lt, ho.size⟩
      obtain ⟨W, z, hWe, hze, h1, h2, h3, yp, yq, yw⟩ := hW
      obtain ⟨ys, hal, hR2⟩ := hR.put_room (by decide) hc1 hc16 (by simp; omega) 0
      have HM := hid h1
      have HO := hid h2
      have HU := hid h3
      have HAL := hid hal
      have HR := hid hR2
      have HL : Hid (0 < xs.length) := by show 0 < _; rw [hR.len]; decide
      clear hm ho h1 h2 h3 hal hR hR2
      simp only [act8O] at hWe
      go_wp2_with fail
      rw [← hWe, ← hze]
      clear hWe hze
      refine (run_turns (act8_put z c 0 _ (by decide) (put_does 3 c 0 (by omega) (by omega))) _ p q xs 5000 false HM.out HU.out (by omega) (by omega) (by decide) (by decide) (by decide) (by decide) HL.out).mono ?_
      rintro e w3 ⟨rfl, hm3, _, ho3⟩
      rw [show (putT 3 c 0).alone xs = (true, ys, 4) from HAL.out] at hm3
      have HM3 : Hid (MemIs 49 w3 p q ys) := hm3
      have HO3 := hid (HO.out.chain ho3 (fun i hi e => by omega))
      clear hm3 ho3 HM HO HU HAL HL
      go_wp2_with fail
      go_roundw
      case rel => exact ⟨j + 1, ys, by go_num, by omega, HM3.out, by rw [List.replicate_succ']; exact HR.out, HO3.out⟩
      case measure => simp [intOf]; omega
    · obtain rfl : j = n := by omega
      obtain ⟨r, hr⟩ : ∃ r : Nat, (k : Int) % 4 = (r : Int) := ⟨k % 4, by omega⟩
      have hr4 : r < 4 := by omega
      have hW : ∃ W z, W = wr.alloc (act8O r c 0 0 false 0) ∧ z = wr.heap.size ∧ MemIs 49 W p q xs ∧ Only (fun _ => False) w W ∧ W.heap[z]? = some (act8O r c 0 0 false 0) ∧ p < z ∧ q < z ∧ w.heap.size ≤ z :=
        ⟨_, _, rfl, rfl, hm.alloc _, ho.alloc _, heap_new _ _, lt_of_block hm.head, hm.row.lt, ho.size⟩
      obtain ⟨W, z, hWe, hze, h1, h2, h3, yp, yq, yw⟩ := hW
      have HM := hid h1
      have HO := hid h2
      have HU := hid h3
      have HR := hid hR
      clear hm ho h1 h2 h3 hR
      simp only [act8O] at hWe
      go_wp2_with fail
      rw [← hWe, ← hze]
      clear hWe hze
      refine (fnew_rel _ _).mono ?_
      rintro e w3 ⟨F, rfl, hf3, hF3, ho3⟩
      have zF : z < F := by have := lt_of_block HU.out; omega
      obtain ⟨P, hPc, hP0⟩ := pacer8 HR.out hr4 hc1 hc16 ((ho3.block z (lt_of_block HU.out) (fun h => h)).trans HU.out) hf3 (HM.out.only ho3 (fun h => h) (fun h => h)) (by omega) (by omega) (by omega) (by omega) (by omega)
      rw [List.length_replicate] at hPc
      have HPC := hid hPc
      have HP0 := hid hP0
      have HO3 := hid (HO.out.chain ho3 (fun _ _ h => h))
      have HR4 := hid hr4
      clear hf3 hF3 ho3 hPc hP0 HM HO HU HR hr4
      go_wp2_with fail
      go_loopw [45] (fun i wx => ∃ (m lb : Nat), i = .int .i64 (m : Int) ∧ m ≤ 9 ∧ P lb m wx ∧ w.heap.size ≤ lb ∧ Only (fun _ => False) w wx) (fun i _ => 9 - (intOf i).toNat)
      case atStart => exact ⟨0, F, rfl, by decide, HP0.out, by omega, HO3.out⟩
      case round =>
        obtain ⟨m, lb, rfl, hm9, hP, hlb, hox⟩ := hrel
        clear HP0 HO3
        by_cases hlt9 : (m : Int) < 9
        · have HP := hid hP
          have HOX := hid hox
          have HLB := hid hlb
          clear hP hox hlb
          go_wp2_with fail
          refine (HPC.out.1 lb m _ _ HP.out).mono ?_
          rintro e w4 ⟨bb, lb', rfl, hP4, hlb4, ho4⟩
          have HP4 := hid hP4
          have HLB4 : Hid (w.heap.size ≤ lb') := by have := HLB.out; have := HOX.out.size; show _ ≤ _; omega
          have HO4 := hid (HOX.out.chain ho4 (fun i hi e => by have := HLB.out; omega))
          clear hP4 hlb4 ho4 HP HOX HLB
          go_wp2_with fail
          go_roundw
          case rel => exact ⟨m + 1, lb', by go_num, by omega, HP4.out, HLB4.out, HO4.out⟩
          case measure => simp [intOf]; omega
        · obtain rfl : m = 9 := by omega
          obtain ⟨s, hfs, hds, hls⟩ := HPC.out.2 lb 9 _ hP (by unfold want; split <;> omega)
          have HFS := hid hfs
          have HDS := hid hds
          have HLS := hid hls
          have HOX := hid hox
          clear hP hox hlb hfs hds hls HPC
          have hkr : r = 0 ∨ r = 1 ∨ (r ≠ 0 ∧ r ≠ 1) := by omega
          rcases hkr with rfl | rfl | ⟨hr0, hr1⟩
          · by_cases hfu : (j : Int) < c
            · skip
              have HW : Hid (s.log.length = 4) := by show _ = _; rw [HLS.out, want, if_pos (.inl ⟨rfl, by omega⟩)]
              clear HLS
              go_wp2_with fail
              refine (done_rel _ F lb s HFS.out).mono ?_
              rintro e w5 ⟨rfl, rfl⟩
              rw [HDS.out]
              go_wp2_with fail
              refine (steps_rel _ F lb s HFS.out).mono ?_
              rintro e w6 ⟨rfl, rfl⟩
              rw [HW.out]
              go_wp2_with fail
              go_ret
              exact ⟨rfl, HOX.out.below (Nat.le_refl _) (fun _ _ h => h)⟩
            · skip
              have HW : Hid (s.log.length = 2) := by show _ = _; rw [HLS.out, want, if_neg (by omega)]
              clear HLS
              go_wp2_with fail
              refine (done_rel _ F lb s HFS.out).mono ?_
              rintro e w5 ⟨rfl, rfl⟩
              rw [HDS.out]
              go_wp2_with fail
              refine (steps_rel _ F lb s HFS.out).mono ?_
              rintro e w6 ⟨rfl, rfl⟩
              rw [HW.out]
              go_wp2_with fail
              go_ret
              exact ⟨rfl, HOX.out.below (Nat.le_refl _) (fun _ _ h => h)⟩
          · by_cases hfu : (0 : Int) < j
            · skip
              have HW : Hid (s.log.length = 4) := by show _ = _; rw [HLS.out, want, if_pos (.inr ⟨rfl, by omega⟩)]
              clear HLS
              go_wp2_with fail
              refine (done_rel _ F lb s HFS.out).mono ?_
              rintro e w5 ⟨rfl, rfl⟩
              rw [HDS.out]
              go_wp2_with fail
              refine (steps_rel _ F lb s HFS.out).mono ?_
              rintro e w6 ⟨rfl, rfl⟩
              rw [HW.out]
              go_wp2_with fail
              go_ret
              exact ⟨rfl, HOX.out.below (Nat.le_refl _) (fun _ _ h => h)⟩
            · skip
              have HW : Hid (s.log.length = 2) := by show _ = _; rw [HLS.out, want, if_neg (by omega)]
              clear HLS
              go_wp2_with fail
              refine (done_rel _ F lb s HFS.out).mono ?_
              rintro e w5 ⟨rfl, rfl⟩
              rw [HDS.out]
              go_wp2_with fail
              refine (steps_rel _ F lb s HFS.out).mono ?_
              rintro e w6 ⟨rfl, rfl⟩
              rw [HW.out]
              go_wp2_with fail
              go_ret
              exact ⟨rfl, HOX.out.below (Nat.le_refl _) (fun _ _ h => h)⟩
          · have e0 : ((r : Int) == 0) = false := beq_eq_false_iff_ne.2 (by omega)
            have e1 : ((r : Int) == 1) = false := beq_eq_false_iff_ne.2 (by omega)
            have HW : Hid (s.log.length = 2) := by show _ = _; rw [HLS.out, want, if_neg (by omega)]
            clear HLS
            go_wp2_with fail
            refine (done_rel _ F lb s HFS.out).mono ?_
            rintro e w5 ⟨rfl, rfl⟩
            rw [HDS.out]
            go_wp2_with fail
            refine (steps_rel _ F lb s HFS.out).mono ?_
            rintro e w6 ⟨rfl, rfl⟩
            rw [HW.out]
            go_wp2_with fail
            go_ret
            exact ⟨rfl, HOX.out.below (Nat.le_refl _) (fun _ _ h => h)⟩

set_option maxRecDepth 100000 in
theorem lifted (os : Os) (started : os.Started) (H : Type) (enc : TypeId × Value → H) :
    ReturnsInHanded {} Try.checked os 6 .any (Rows.ringCostsSpec.pre6 enc Try.prog Try.f6 Rows.ringCostsRow.domain false) (Rows.ringCostsSpec.post enc Try.prog Try.f6 false true false false) := by
  refine returnsInHanded_of_change (C := Try.checked) own started (by kernel_rfl) Try.func6
    (ChangeSpec.witness6 (enc := enc) (C := Try.checked) false ⟨#[], #[.int .u8 0, .int .u8 0, .int .u8 0], []⟩ 8 (by kernel_rfl) (by kernel_rfl) (by kernel_rfl) (by kernel_rfl)) ?_
  intro W base args ds gs before hval0 hW hcnd _
  have hval : ∀ (j : Nat) t v, Try.f6.params[j]? = some t → args[j]? = some v → Value.okWide Try.prog W .any base t v := hval0
  have hW' := hW
  obtain ⟨p, q, hA0, hV, rfl, hfz, hnd⟩ := hW
  have hA : DataW.TrodAll enc Try.prog W 0 (fun _ => true) true Try.f6.params.toList args.toList ds p := hA0
  rw [Try.params6] at hA hval
  obtain ⟨v0, vs0, d0, ds0, p0, q0, hargs, rfl, rfl, h0, r0⟩ := trodAll_cons hA
  obtain ⟨v1, vs1, d1, ds1, p1, q1, rfl, rfl, rfl, h1, r1⟩ := trodAll_cons r0
  obtain ⟨v2, vs2, d2, ds2, p2, q2, rfl, rfl, rfl, h2, r2⟩ := trodAll_cons r1
  obtain ⟨rfl, rfl, rfl⟩ := trodAll_nil r2
  obtain rfl : args = #[v0, v1, v2] := by cases args; simp_all
  obtain ⟨a0, rfl, rfl, rfl, w0⟩ := open_int Try.underlying5 (hval 0 5 v0 rfl rfl) h0
  obtain ⟨ma, rfl, hma⟩ : ∃ m : Nat, a0 = m ∧ m ≤ 255 := by
    have := bounds_u8 w0
    exact ⟨a0.toNat, by omega, by omega⟩
  obtain ⟨a1, rfl, rfl, rfl, w1⟩ := open_int Try.underlying5 (hval 1 5 v1 rfl rfl) h1
  obtain ⟨mb, rfl, hmb⟩ : ∃ m : Nat, a1 = m ∧ m ≤ 255 := by
    have := bounds_u8 w1
    exact ⟨a1.toNat, by omega, by omega⟩
  obtain ⟨a2, rfl, rfl, rfl, w2⟩ := open_int Try.underlying5 (hval 2 5 v2 rfl rfl) h2
  obtain ⟨mk, rfl, hmk⟩ : ∃ m : Nat, a2 = m ∧ m ≤ 255 := by
    have := bounds_u8 w2
    exact ⟨a2.toNat, by omega, by omega⟩
  refine (walk ma mb mk W hma hmb hmk).mono fun e W' ⟨he, hg⟩ => ?_
  subst he
  exact ⟨_, rfl, post_law 3 4 laidOut (by kernel_rfl) rfl rfl rfl Try.underlying4 (fun l hl => by match l, hl with | [_, _, _], _ => rfl) hW' hg⟩

theorem over : Rows.ringCostsRow.holds Try.pinned (OpenSpec.ofChange Rows.ringCostsSpec) :=
  OpenClaim.holds_of_wide 6 Try.f6 rfl rfl rfl rfl rfl rfl rfl ⟨rfl, rfl, rfl, rfl, rfl⟩ rfl rfl rfl rfl rfl (by kernel_rfl) Try.func6 (by kernel_rfl)
    (of_decide_eq_true (by kernel_rfl)) (by unfold Func.isWrapper; first | (rw [if_pos (by decide +kernel)]; kernel_rfl) | (rw [if_neg (by decide +kernel)]; exact ⟨rfl, rfl⟩))
    (fun os started H enc _ => lifted os started H enc)

theorem proved : Rows.RingCostsSaid := over
#print axioms proved
end Go.Proofs.Ytdoihlnipajniaa.ringCosts
