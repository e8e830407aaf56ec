/-
  septumlaw11.awake answers true. Conditions: none.
-/
import Derived.Test.YtpmchlnnlanokaaConf11e
namespace Go.Proofs.Ytpmchlnnlanokaa
open Go.RowKit Go.Sept

theorem cf_none {P : Nat → Prop} (w : World) : CfIs P w (.slice none 0 0) (.slice none 0 0) (.slice none 0 0) ⟨[], [], []⟩ := ⟨SlOf.nil, SlOf.nil, SlOf.nil⟩

set_option maxRecDepth 100000 in
set_option maxHeartbeats 1000000 in
theorem awake11_any (w : World) : Calls Try.prog 7 #[] w fun e w' => e = .returned (.bool true) ∧ Only (fun _ => False) w w' := by
  go_enter Try.func7, Try.ntmps7
  go_wp2_with fail
  refine (cValid (P := fun _ => True) _ _ _ _ _ (cf_none _)).mono ?_
  rintro e w1 ⟨rfl, ho1⟩
  rw [show validV (wrongW ⟨[], [], []⟩) = .tuple #[.int .i64 1, .int .i64 15] from rfl]
  have HO1 := hid ho1
  clear ho1
  go_wp2_with fail
  refine (cLeadsSame _ _ _ _ _).mono ?_
  rintro e w2 ⟨rfl, ho2⟩
  have HO2 := hid (HO1.out.chain ho2 (fun _ _ h => h))
  clear ho2
  go_wp2_with fail
  go_ret
  exact ⟨rfl, HO2.out⟩
end Go.Proofs.Ytpmchlnnlanokaa
