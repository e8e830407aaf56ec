/-
  ConfigChains: what leads from a to b, and from b to d, leads from a to d. Conditions: none.
-/
import Derived.Test.YtpmchlnnlanokaaAwake11
import Derived.Test.YtpmchlnnlanokaaConf11f
import Derived.Test.YtpmchlnnlanokaaOpenCf11
import Derived.Deep.RegionHeld
namespace Go.Proofs.Ytpmchlnnlanokaa.configChains
open Go.Sept Go.RowKit Go.ChangeShapes Go.WideShapes Go.ChangeAt Go.Joins Go.Deep

theorem own : ownKnob Try.prog.godebug = none := by kernel_rfl
theorem laidOut : laidOutB Try.prog = true := by kernel_rfl

set_option maxRecDepth 100000 in
set_option maxHeartbeats 2000000 in
theorem walk {P : Nat → Prop} (w : World) (v0 v1 v2 : Value) (c : Cf) (h : CfIs P w v0 v1 v2 c) (a b d : Int) (hfa : -9223372036854775808 ≤ a ∧ a ≤ 9223372036854775807) (hfb : -9223372036854775808 ≤ b ∧ b ≤ 9223372036854775807) :
    Calls Try.prog 5 #[.agg #[v0, v1, v2], .int .i64 a, .int .i64 b, .int .i64 d] w fun e w' => e = .returned (.bool true) ∧ Below w.heap.size w w' := by
  have hW : ∃ W z, W = w.alloc (cfO v0 v1 v2) ∧ z = w.heap.size ∧ Only (fun _ => False) w W ∧ W.heap[z]? = some (cfO v0 v1 v2) := ⟨_, _, rfl, rfl, (Only.refl _ _).alloc _, heap_new _ _⟩
  obtain ⟨W, z, hWe, hze, hoW, hbz⟩ := hW
  have HC := hid (h.only hoW (fun _ _ h => h))
  have HO := hid hoW
  have HB := hid hbz
  have HFA := hid hfa
  have HFB := hid hfb
  clear hoW hbz h hfa hfb
  simp only [cfO] at hWe
  go_enter Try.func5, Try.ntmps5
  go_upto_region 1 with fail
  rw [← hWe, ← hze]
  clear hWe hze
  go_wp2_with fail
  refine (awake11_any _).mono ?_
  rintro e w1 ⟨rfl, ho1⟩
  obtain ⟨c0, c1, c2⟩ := cf_cells HB.out ho1
  have HO1 := hid ho1
  clear ho1
  go_wp2_with fail
  refine (few_any _ _ _ _ c (HC.out.only HO1.out (fun _ _ h => h))).mono ?_
  rintro e w2 ⟨⟨b, rfl, hb⟩, ho2⟩
  have HO2 := hid (HO1.out.chain ho2 (fun _ _ h => h))
  clear ho2 c0 c1 c2
  cases b
  · clear hb
    go_wp2_with fail
    refine (awake11_any _).mono ?_
    rintro e w3 ⟨rfl, ho3⟩
    have HO3 := hid (HO.out.chain (HO2.out.chain ho3 (fun _ _ h => h)) (fun _ _ h => h))
    clear ho3
    go_wp2_with fail
    go_ret
    exact ⟨rfl, HO3.out.below (Nat.le_refl _) (fun _ _ h => h)⟩
  have HS := hid (hb rfl)
  have HC2 := hid (HC.out.only HO2.out (fun _ _ h => h))
  obtain ⟨c0, c1, c2⟩ := cf_cells HB.out HO2.out
  clear hb HO1
  go_wp2_with fail
  refine (cLeads _ _ _ _ c HC2.out HS.out.2.2.1 a b HFA.out).mono ?_
  rintro e w3 ⟨⟨b1, rfl, h1⟩, ho3⟩
  have HO3 := hid (HO2.out.chain ho3 (fun _ _ h => h))
  obtain ⟨d0, d1, d2⟩ := cf_cells HB.out HO3.out
  have H1 := hid h1
  clear h1 ho3 c0 c1 c2 HO2 HC2
  cases b1
  · go_wp2_with fail
    go_ret
    exact ⟨rfl, (HO.out.chain HO3.out (fun _ _ h => h)).below (Nat.le_refl _) (fun _ _ h => h)⟩
  go_wp2_with fail
  refine (cLeads _ _ _ _ c (HC.out.only HO3.out (fun _ _ h => h)) HS.out.2.2.1 b d HFB.out).mono ?_
  rintro e w4 ⟨⟨b2, rfl, h2⟩, ho4⟩
  have HO4 := hid (HO3.out.chain ho4 (fun _ _ h => h))
  obtain ⟨c0, c1, c2⟩ := cf_cells HB.out HO4.out
  have H2 := hid h2
  clear h2 ho4 d0 d1 d2 HO3
  cases b2
  · go_wp2_with fail
    go_ret
    exact ⟨rfl, (HO.out.chain HO4.out (fun _ _ h => h)).below (Nat.le_refl _) (fun _ _ h => h)⟩
  go_wp2_with fail
  refine (cLeads _ _ _ _ c (HC.out.only HO4.out (fun _ _ h => h)) HS.out.2.2.1 a d HFA.out).mono ?_
  rintro e w5 ⟨⟨b3, rfl, h3⟩, ho5⟩
  have hb3 : b3 = true := h3.2 ((H1.out.1 (by simp)).trans (H2.out.1 (by simp)))
  subst hb3
  have HO5 := hid (HO.out.chain (HO4.out.chain ho5 (fun _ _ h => h)) (fun _ _ h => h))
  clear h3 ho5 c0 c1 c2
  go_wp2_with fail
  go_ret
  exact ⟨rfl, HO5.out.below (Nat.le_refl _) (fun _ _ h => h)⟩

set_option maxRecDepth 100000 in
theorem lifted (os : Os) (started : os.Started) (H : Type) (enc : TypeId × Value → H) :
    ReturnsInHanded {} Try.checked os 5 .any (Rows.configChainsSpec.pre6 enc Try.prog Try.f5 Rows.configChainsRow.domain false) (Rows.configChainsSpec.post enc Try.prog Try.f5 false true false false) := by
  refine returnsInHanded_of_change (C := Try.checked) own started (by kernel_rfl) Try.func5
    (ChangeSpec.witness6 (enc := enc) (C := Try.checked) false ⟨#[], #[.agg #[.slice none 0 0, .slice none 0 0, .slice none 0 0], .int .i64 0, .int .i64 0, .int .i64 0], []⟩ 8 (by kernel_rfl) (by kernel_rfl) (by kernel_rfl) (by kernel_rfl)) ?_
  intro W base args ds gs before hval0 hW hcnd _
  have hval : ∀ (j : Nat) t v, Try.f5.params[j]? = some t → args[j]? = some v → Value.okWide Try.prog W .any base t v := hval0
  have hW' := hW
  obtain ⟨p, q, hA0, hV, rfl, hfz, hnd⟩ := hW
  have hA : DataW.TrodAll enc Try.prog W 0 (fun _ => true) true Try.f5.params.toList args.toList ds p := hA0
  rw [Try.params5] at hA hval
  obtain ⟨v0, vs0, d0, ds0, p0, q0, hargs, rfl, rfl, h0, r0⟩ := trodAll_cons hA
  obtain ⟨v1, vs1, d1, ds1, p1, q1, rfl, rfl, rfl, h1, r1⟩ := trodAll_cons r0
  obtain ⟨v2, vs2, d2, ds2, p2, q2, rfl, rfl, rfl, h2, r2⟩ := trodAll_cons r1
  obtain ⟨v3, vs3, d3, ds3, p3, q3, rfl, rfl, rfl, h3, r3⟩ := trodAll_cons r2
  obtain ⟨rfl, rfl, rfl⟩ := trodAll_nil r3
  obtain rfl : args = #[v0, v1, v2, v3] := by cases args; simp_all
  obtain ⟨x0, x1, x2, c, rfl, hc⟩ := open_cf (hval 0 26 v0 rfl rfl) h0
  obtain ⟨a1, rfl, rfl, rfl, w1⟩ := open_int Try.underlying3 (hval 1 3 v1 rfl rfl) h1
  obtain ⟨a2, rfl, rfl, rfl, w2⟩ := open_int Try.underlying3 (hval 2 3 v2 rfl rfl) h2
  obtain ⟨a3, rfl, rfl, rfl, w3⟩ := open_int Try.underlying3 (hval 3 3 v3 rfl rfl) h3
  refine (walk W x0 x1 x2 c hc a1 a2 a3 (bounds_i64 w1) (bounds_i64 w2)).mono fun e W' ⟨he, hg⟩ => ?_
  subst he
  exact ⟨_, rfl, post_law 4 4 laidOut (by kernel_rfl) rfl rfl rfl Try.underlying4 (fun l hl => by match l, hl with | [_, _, _, _], _ => rfl) hW' hg⟩

theorem over : Rows.configChainsRow.holds Try.pinned (OpenSpec.ofChange Rows.configChainsSpec) :=
  OpenClaim.holds_of_wide 5 Try.f5 rfl rfl rfl rfl rfl rfl rfl ⟨rfl, rfl, rfl, rfl, rfl⟩ rfl rfl rfl rfl rfl (by kernel_rfl) Try.func5 (by kernel_rfl)
    (of_decide_eq_true (by kernel_rfl)) (by unfold Func.isWrapper; first | (rw [if_pos (by decide +kernel)]; kernel_rfl) | (rw [if_neg (by decide +kernel)]; exact ⟨rfl, rfl⟩))
    (fun os started H enc _ => lifted os started H enc)

theorem proved : Rows.ConfigChainsSaid := over
#print axioms proved
end Go.Proofs.Ytpmchlnnlanokaa.configChains
