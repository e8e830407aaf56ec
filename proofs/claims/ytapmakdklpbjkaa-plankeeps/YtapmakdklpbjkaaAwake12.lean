/-
  septumlaw12's awake: it answers true. Conditions: none.
-/
import Derived.Test.YtapmakdklpbjkaaOf12
namespace Go.Sept
def onePt : Pt := ⟨[⟨1, 0, false, []⟩], []⟩
theorem onePt_ok : partW onePt = 0 := by decide
end Go.Sept
namespace Go.Proofs.Ytapmakdklpbjkaa
open Go.RowKit Go.Sept

/-- What can be read of a block that holds a plan. -/
theorem PlIs.shape {P : Nat → Prop} {w : World} {cs : Array Value} {p : Pt} (h : PlIs P w cs p) : ∃ ta oa xa xc ya yc, cs = planCs p.ths.length p.obs.length ta oa (.slice xa p.ths.length xc) (.slice ya p.obs.length yc) := by
  obtain ⟨ta, oa, u0, u1, h1, ⟨h2, h3⟩, _⟩ := h
  obtain ⟨xa, xc, rfl, _⟩ := h2.shape
  obtain ⟨ya, yc, rfl, _⟩ := h3.shape
  exact ⟨ta, oa, xa, xc, ya, yc, h1⟩

set_option maxRecDepth 100000 in
set_option maxHeartbeats 1000000 in
theorem awake12_any (w : World) : Calls Try.prog 6 #[] w fun e w' => e = .returned (.bool true) ∧ Only (fun _ => False) w w' := by
  have hW : ∃ W z, W = w.alloc (.cells #[.int .i64 1, .int .u32 0, .bool false, .slice none 0 0] 50) ∧ z = w.heap.size ∧ Only (fun _ => False) w W ∧ W.heap[z]? = some (.cells #[.int .i64 1, .int .u32 0, .bool false, .slice none 0 0] 50) := ⟨_, _, rfl, rfl, (Only.refl _ _).alloc _, heap_new _ _⟩
  obtain ⟨W, z, hWe, hze, hoW, hbz⟩ := hW
  have hP : PtIs (fun _ => True) W (.slice (some ⟨z, 0, none⟩) 1 1) (.slice none 0 0) onePt := by
    refine ⟨⟨_, 1, rfl, ⟨Nat.le_refl _, by decide⟩, z, 0, fun i x hx => ?_⟩, SlOf.nil⟩
    cases i with
    | zero =>
      simp [onePt] at hx
      subst hx
      exact ⟨rfl, trivial, ⟨cell_of_block hbz 0, by decide, by decide⟩, cell_of_block hbz 1, ⟨by decide, by decide⟩, cell_of_block hbz 2, _, cell_of_block hbz 3, SlOf.nil⟩
    | succ i => simp [onePt] at hx
  have HO := hid hoW
  have HC := hid (of_rel W _ _ onePt hP ⟨by decide, by decide, fun t ht => by simp [onePt] at ht; subst ht; exact ⟨by decide, fun c hc => by simp at hc⟩⟩)
  clear hP hbz hoW
  go_enter Try.func6, Try.ntmps6
  go_wp2_with fail
  rw [← hWe, ← hze]
  clear hWe hze
  refine HC.out.mono ?_
  rintro e w1 ⟨h, ho⟩
  have HO1 := hid ho
  rcases h with ⟨h, _⟩ | ⟨_, cs, rfl, hpl⟩
  · exact absurd onePt_ok h
  obtain ⟨ta, oa, xa, xc, ya, yc, rfl⟩ := hpl.shape
  rw [show onePt.ths.length = 1 from rfl, show onePt.obs.length = 0 from rfl]
  clear hpl ho
  go_wp2_with fail
  go_ret
  exact ⟨rfl, (HO.out.chain HO1.out (fun _ _ h => h)).alloc _⟩
end Go.Proofs.Ytapmakdklpbjkaa
