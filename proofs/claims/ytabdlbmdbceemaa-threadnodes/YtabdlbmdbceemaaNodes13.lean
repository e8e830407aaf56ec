/-
  ThreadNodes: each thread is told by its nodes, and by no other address; there is no other thread. Conditions: none.
-/
import Derived.Test.YtabdlbmdbceemaaNodes13a
import Derived.Test.YtabdlbmdbceemaaNodes13b
import Derived.Test.YtabdlbmdbceemaaNodes13c
import Derived.Test.YtabdlbmdbceemaaNodes13d
import Derived.Test.YtabdlbmdbceemaaNodes13e
namespace Go.Proofs.Ytabdlbmdbceemaa.threadNodes
open Go.Sept Go.RowKit Go.ChangeShapes Go.WideShapes Go.ChangeAt Go.Joins Go.Deep

theorem own : ownKnob Try.prog.godebug = none := by kernel_rfl
theorem laidOut : laidOutB Try.prog = true := by kernel_rfl
end Go.Proofs.Ytabdlbmdbceemaa.threadNodes
namespace Go.Proofs.Ytabdlbmdbceemaa.threadNodes
open Go.Sept Go.RowKit

set_option maxRecDepth 100000 in
set_option maxHeartbeats 4000000 in
theorem walk {P0 : Nat → Prop} (w : World) (v0 v1 : Value) (p : Pt) (h0 : PtIs P0 w v0 v1 p) (t a : Int) :
    Calls Try.prog 3 #[.agg #[v0, v1], .int .i64 t, .int .i64 a] w fun e w' => e = .returned (.bool true) ∧ Below w.heap.size w w' := by
  by_cases hr : t < 0 ∨ (p.ths.length : Int) ≤ t
  · exact threadNodesa.walk w v0 v1 p h0 t a hr
  have hrg : 0 ≤ t ∧ t < (p.ths.length : Int) := by omega
  by_cases ha : a < 0
  · exact threadNodesb.walk w v0 v1 p h0 t a ⟨hrg, ha⟩
  rcases owner_two p.ths.length p.obs.length a 0 with ⟨c, hc⟩ | hc
  · exact threadNodesd.walk w v0 v1 p h0 t a ⟨hrg, c, hc⟩
  rcases owner_two p.ths.length p.obs.length a 2 with ⟨d, hd⟩ | hd
  · exact threadNodese.walk w v0 v1 p h0 t a ⟨hrg, d, hd⟩
  exact threadNodesc.walk w v0 v1 p h0 t a ⟨hrg, by omega, hc, hd⟩
end Go.Proofs.Ytabdlbmdbceemaa.threadNodes
namespace Go.Proofs.Ytabdlbmdbceemaa.threadNodes
open Go.Sept Go.RowKit Go.ChangeShapes Go.WideShapes Go.ChangeAt Go.Joins Go.Deep

set_option maxRecDepth 100000 in
theorem lifted (os : Os) (started : os.Started) (H : Type) (enc : TypeId × Value → H) :
    ReturnsInHanded {} Try.checked os 3 .any (Rows.threadNodesSpec.pre6 enc Try.prog Try.f3 Rows.threadNodesRow.domain false) (Rows.threadNodesSpec.post enc Try.prog Try.f3 false true false false) := by
  refine returnsInHanded_of_change (C := Try.checked) own started (by kernel_rfl) Try.func3
    (ChangeSpec.witness6 (enc := enc) (C := Try.checked) false ⟨#[], #[.agg #[.slice none 0 0, .slice none 0 0], .int .i64 0, .int .i64 0], []⟩ 8 (by kernel_rfl) (by kernel_rfl) (by kernel_rfl) (by kernel_rfl)) ?_
  intro W base args ds gs before hval0 hW hcnd _
  have hval : ∀ (j : Nat) t v, Try.f3.params[j]? = some t → args[j]? = some v → Value.okWide Try.prog W .any base t v := hval0
  have hW' := hW
  obtain ⟨p, q, hA0, hV, rfl, hfz, hnd⟩ := hW
  have hA : DataW.TrodAll enc Try.prog W 0 (fun _ => true) true Try.f3.params.toList args.toList ds p := hA0
  rw [Try.params3] at hA hval
  obtain ⟨v0, vs0, d0, ds0, p0, q0, hargs, rfl, rfl, h0, r0⟩ := trodAll_cons hA
  obtain ⟨v1, vs1, d1, ds1, p1, q1, rfl, rfl, rfl, h1, r1⟩ := trodAll_cons r0
  obtain ⟨v2, vs2, d2, ds2, p2, q2, rfl, rfl, rfl, h2, r2⟩ := trodAll_cons r1
  obtain ⟨rfl, rfl, rfl⟩ := trodAll_nil r2
  obtain rfl : args = #[v0, v1, v2] := by cases args; simp_all
  obtain ⟨x0, x1, c, rfl, hc⟩ := open_pt (hval 0 25 v0 rfl rfl) h0
  obtain ⟨a1, rfl, rfl, rfl, w1⟩ := open_int Try.underlying3 (hval 1 3 v1 rfl rfl) h1
  obtain ⟨a2, rfl, rfl, rfl, w2⟩ := open_int Try.underlying3 (hval 2 3 v2 rfl rfl) h2
  refine (walk W x0 x1 c hc a1 a2 ).mono fun e W' ⟨he, hg⟩ => ?_
  subst he
  exact ⟨_, rfl, post_law 3 4 laidOut (by kernel_rfl) rfl rfl rfl Try.underlying4 (fun l hl => by match l, hl with | [_, _, _], _ => rfl) hW' hg⟩

theorem over : Rows.threadNodesRow.holds Try.pinned (OpenSpec.ofChange Rows.threadNodesSpec) :=
  OpenClaim.holds_of_wide 3 Try.f3 rfl rfl rfl rfl rfl rfl rfl ⟨rfl, rfl, rfl, rfl, rfl⟩ rfl rfl rfl rfl rfl (by kernel_rfl) Try.func3 (by kernel_rfl)
    (of_decide_eq_true (by kernel_rfl)) (by unfold Func.isWrapper; first | (rw [if_pos (by decide +kernel)]; kernel_rfl) | (rw [if_neg (by decide +kernel)]; exact ⟨rfl, rfl⟩))
    (fun os started H enc _ => lifted os started H enc)

theorem proved : Rows.ThreadNodesSaid := over
#print axioms proved
end Go.Proofs.Ytabdlbmdbceemaa.threadNodes
