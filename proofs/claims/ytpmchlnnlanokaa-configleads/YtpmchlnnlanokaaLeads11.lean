/-
  ConfigLeads: Leads answers as the reference does. Conditions: none.
-/
import Derived.Test.YtpmchlnnlanokaaAwake11
import Derived.Test.YtpmchlnnlanokaaConf11f
import Derived.Test.YtpmchlnnlanokaaOpenCf11
import Derived.Deep.RegionHeld
namespace Go.Proofs.Ytpmchlnnlanokaa.configLeads
open Go.Sept Go.RowKit Go.ChangeShapes Go.WideShapes Go.ChangeAt Go.Joins Go.Deep

theorem own : ownKnob Try.prog.godebug = none := by kernel_rfl
theorem laidOut : laidOutB Try.prog = true := by kernel_rfl

theorem tells_eq {e : Ending} {X : Prop} {b : Bool} (h : Tells e X) (hb : b = true ↔ X) : e = .returned (.bool b) := by
  obtain ⟨b', rfl, h'⟩ := h
  have : b' = b := by cases b <;> cases b' <;> simp_all
  rw [this]

set_option maxRecDepth 100000 in
set_option maxHeartbeats 2000000 in
theorem walk {P : Nat → Prop} (w : World) (v0 v1 v2 : Value) (c : Cf) (h : CfIs P w v0 v1 v2 c) (f t : Int) (hf : -9223372036854775808 ≤ f ∧ f ≤ 9223372036854775807) :
    Calls Try.prog 4 #[.agg #[v0, v1, v2], .int .i64 f, .int .i64 t] w fun e w' => e = .returned (.bool true) ∧ Below w.heap.size w w' := by
  have hW : ∃ W z, W = w.alloc (cfO v0 v1 v2) ∧ z = w.heap.size ∧ Only (fun _ => False) w W ∧ W.heap[z]? = some (cfO v0 v1 v2) := ⟨_, _, rfl, rfl, (Only.refl _ _).alloc _, heap_new _ _⟩
  obtain ⟨W, z, hWe, hze, hoW, hbz⟩ := hW
  have HC := hid (h.only hoW (fun _ _ h => h))
  have HO := hid hoW
  have HB := hid hbz
  have HFI := hid hf
  clear hoW hbz h hf
  simp only [cfO] at hWe
  go_enter Try.func4, Try.ntmps4
  go_upto_region 1 with fail
  rw [← hWe, ← hze]
  clear hWe hze
  go_wp2_with fail
  refine (awake11_any _).mono ?_
  rintro e w1 ⟨rfl, ho1⟩
  obtain ⟨c0, c1, c2⟩ := cf_cells HB.out ho1
  have HO1 := hid ho1
  clear ho1
  go_wp2_with fail
  refine (few_any _ _ _ _ c (HC.out.only HO1.out (fun _ _ h => h))).mono ?_
  rintro e w2 ⟨⟨b, rfl, hb⟩, ho2⟩
  have HO2 := hid (HO1.out.chain ho2 (fun _ _ h => h))
  clear ho2 c0 c1 c2
  cases b
  · clear hb
    go_wp2_with fail
    refine (awake11_any _).mono ?_
    rintro e w3 ⟨rfl, ho3⟩
    have HO3 := hid (HO.out.chain (HO2.out.chain ho3 (fun _ _ h => h)) (fun _ _ h => h))
    clear ho3
    go_wp2_with fail
    go_ret
    exact ⟨rfl, HO3.out.below (Nat.le_refl _) (fun _ _ h => h)⟩
  have HS := hid (hb rfl)
  have HC2 := hid (HC.out.only HO2.out (fun _ _ h => h))
  obtain ⟨c0, c1, c2⟩ := cf_cells HB.out HO2.out
  clear hb HO1
  obtain ⟨r, hr⟩ : ∃ r : Bool, r = true ↔ LeadsTo c.chans f t := by
    by_cases e : LeadsTo c.chans f t
    · exact ⟨true, fun _ => e, fun _ => rfl⟩
    · exact ⟨false, (fun x => Bool.noConfusion x), fun x => absurd x e⟩
  have HF : Hid (∀ w', Only (fun _ => False) w2 w' → w'.cell? ⟨z, 0, none⟩ = some v0 ∧ w'.cell? ⟨z, 1, none⟩ = some v1 ∧ w'.cell? ⟨z, 2, none⟩ = some v2) := fun w' ho => cf_cells HB.out (HO2.out.chain ho (fun _ _ h => h))
  have HA : Hid (∀ w', Only (fun _ => False) w2 w' → Calls Try.prog 13 #[.agg #[v0, v1, v2], .int .i64 f, .int .i64 t] w' fun e w'' => e = .returned (.bool r) ∧ Only (fun _ => False) w2 w'') := fun w' ho => by
    refine (cLeads w' _ _ _ c (HC2.out.only ho (fun _ _ h => h)) HS.out.2.2.1 f t HFI.out).mono ?_
    rintro e w'' ⟨he, ho2⟩
    exact ⟨tells_eq he hr, ho.chain ho2 (fun _ _ h => h)⟩
  have HR : Hid (∀ w', Only (fun _ => False) w2 w' → Calls Try.prog 14 #[.agg #[v0, v1, v2], .int .i64 f, .int .i64 t] w' fun e w'' => e = .returned (.bool r) ∧ Only (fun _ => False) w2 w'') := fun w' ho => by
    refine (rLeads w' _ _ _ c (HC2.out.only ho (fun _ _ h => h)) HS.out.2.2.1 f t).mono ?_
    rintro e w'' ⟨he, ho2⟩
    exact ⟨tells_eq he hr, ho.chain ho2 (fun _ _ h => h)⟩
  have HD : Hid (Only (fun _ => False) w2 w2.drew) := (Only.refl _ _).drew
  have sr : (r == r) = true := by simp
  clear hr HC2 HS
  go_wp2_with fail
  go_region_held (fun w' => w'.cell? ⟨z, 0, none⟩ = some v0 ∧ w'.cell? ⟨z, 1, none⟩ = some v1 ∧ w'.cell? ⟨z, 2, none⟩ = some v2) (go_keep)
    (first
      | (go_at_call 13; refine (HA.out _ (by first | exact HQ2.out | exact HD.out)).mono ?_; rintro e w5 ⟨rfl, ho5⟩; have HQ1 := hid ho5; obtain ⟨g0, g1, g2⟩ := HF.out w5 ho5; clear ho5)
      | (go_at_call 14; refine (HR.out _ (by first | exact HQ1.out | exact HD.out)).mono ?_; rintro e w6 ⟨rfl, ho6⟩; have HQ2 := hid ho6; obtain ⟨k0, k1, k2⟩ := HF.out w6 ho6; clear ho6))
  all_goals go_wp2_with fail
  all_goals go_ret
  all_goals refine ⟨rfl, (HO.out.chain (HO2.out.chain ?_ (fun _ _ h => h)) (fun _ _ h => h)).below (Nat.le_refl _) (fun _ _ h => h)⟩
  all_goals first
    | exact HQ1.out
    | exact HQ2.out

set_option maxRecDepth 100000 in
theorem lifted (os : Os) (started : os.Started) (H : Type) (enc : TypeId × Value → H) :
    ReturnsInHanded {} Try.checked os 4 .any (Rows.configLeadsSpec.pre6 enc Try.prog Try.f4 Rows.configLeadsRow.domain false) (Rows.configLeadsSpec.post enc Try.prog Try.f4 false true false false) := by
  refine returnsInHanded_of_change (C := Try.checked) own started (by kernel_rfl) Try.func4
    (ChangeSpec.witness6 (enc := enc) (C := Try.checked) false ⟨#[], #[.agg #[.slice none 0 0, .slice none 0 0, .slice none 0 0], .int .i64 0, .int .i64 0], []⟩ 8 (by kernel_rfl) (by kernel_rfl) (by kernel_rfl) (by kernel_rfl)) ?_
  intro W base args ds gs before hval0 hW hcnd _
  have hval : ∀ (j : Nat) t v, Try.f4.params[j]? = some t → args[j]? = some v → Value.okWide Try.prog W .any base t v := hval0
  have hW' := hW
  obtain ⟨p, q, hA0, hV, rfl, hfz, hnd⟩ := hW
  have hA : DataW.TrodAll enc Try.prog W 0 (fun _ => true) true Try.f4.params.toList args.toList ds p := hA0
  rw [Try.params4] at hA hval
  obtain ⟨v0, vs0, d0, ds0, p0, q0, hargs, rfl, rfl, h0, r0⟩ := trodAll_cons hA
  obtain ⟨v1, vs1, d1, ds1, p1, q1, rfl, rfl, rfl, h1, r1⟩ := trodAll_cons r0
  obtain ⟨v2, vs2, d2, ds2, p2, q2, rfl, rfl, rfl, h2, r2⟩ := trodAll_cons r1
  obtain ⟨rfl, rfl, rfl⟩ := trodAll_nil r2
  obtain rfl : args = #[v0, v1, v2] := by cases args; simp_all
  obtain ⟨x0, x1, x2, c, rfl, hc⟩ := open_cf (hval 0 26 v0 rfl rfl) h0
  obtain ⟨a1, rfl, rfl, rfl, w1⟩ := open_int Try.underlying3 (hval 1 3 v1 rfl rfl) h1
  obtain ⟨a2, rfl, rfl, rfl, w2⟩ := open_int Try.underlying3 (hval 2 3 v2 rfl rfl) h2
  refine (walk W x0 x1 x2 c hc a1 a2 (bounds_i64 w1)).mono fun e W' ⟨he, hg⟩ => ?_
  subst he
  exact ⟨_, rfl, post_law 3 4 laidOut (by kernel_rfl) rfl rfl rfl Try.underlying4 (fun l hl => by match l, hl with | [_, _, _], _ => rfl) hW' hg⟩

theorem over : Rows.configLeadsRow.holds Try.pinned (OpenSpec.ofChange Rows.configLeadsSpec) :=
  OpenClaim.holds_of_wide 4 Try.f4 rfl rfl rfl rfl rfl rfl rfl ⟨rfl, rfl, rfl, rfl, rfl⟩ rfl rfl rfl rfl rfl (by kernel_rfl) Try.func4 (by kernel_rfl)
    (of_decide_eq_true (by kernel_rfl)) (by unfold Func.isWrapper; first | (rw [if_pos (by decide +kernel)]; kernel_rfl) | (rw [if_neg (by decide +kernel)]; exact ⟨rfl, rfl⟩))
    (fun os started H enc _ => lifted os started H enc)

theorem proved : Rows.ConfigLeadsSaid := over
#print axioms proved
end Go.Proofs.Ytpmchlnnlanokaa.configLeads
