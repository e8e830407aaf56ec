/-
  No cell of these rows narrows 'for every input' (looked for: loops, veiled, ifaces, maps, wideKeys, modest, calm, conditions, laid).
  DERIVED. THE GIVEN ROWS OF THIS SEAT. 3 by the template 'for every input the law returns true; each argument reads behind the call as it read before'; 0 by the template 'total and deterministic' (their statements: YtmcmjcaigipoaaaGreatTotals.lean).
  GIVEN WITH THE SEED: the statements are not yours to turn. If you find one false, say at which input.
  Laid BY PROGRAM, IN A SANDBOX (cutbox-rows.mjs): the forced cells as the released guide's own fill.sh prints them over the translation 2668dca2800758d2… (all of the seat's roots in one cut). By AI agents, Wed Nov 11 2026. No macro, syntax, notation, axiom, sorry.
-/
import Derived.Test.YtmcmjcaigipoaaaGreatChecked
import GoSem.Claim
import GoSem.ClaimJoined
import GoSem.ClaimMapViews
import Derived.JoinedTies
import Derived.KernelRfl
namespace Go.Proofs.YtmcmjcaigipoaaaGreat
/- THE CELL 'sum', in the pinned program and in every row, IS THE sha256 OF THE DUMP (.gsa) THAT YtmcmjcaigipoaaaGreatProg.lean LOADS. Nothing in Lean hashes anything: it is a label: what it is worth is what the hold of that sum in a sandbox is worth. -/
noncomputable def Tryz.pinned : Pinned := { name := "ytmcmjcaigipoaaagreat", sum := "2668dca2800758d2d9e533efb7a2beeb7523e2d3a12b44e96046fda4cdfd592c", checked := Tryz.checked }
namespace Rows
def none {H : Type} : Left H := { results := [], args := [] }

/-- 'septumlaw15.DispatchSettles': WHATEVER THE INPUT: true; the input reads as it did. -/
def dispatchSettlesSpec : ChangeSpec := { name := "dispatchSettles", fn := fun _ => fun
  | [d1, d2, d3] => { results := [.lit (.bool true)], args := [d1, d2, d3] }
  | _ => none }
def dispatchSettlesRow : OpenClaim := { program := "ytmcmjcaigipoaaagreat", sum := "2668dca2800758d2d9e533efb7a2beeb7523e2d3a12b44e96046fda4cdfd592c", func := "septum/septumlaw15.DispatchSettles", spec := "dispatchSettles", unfollowed := true, recurses := true, apart := false }
def DispatchSettlesSaid : Prop := dispatchSettlesRow.holds Tryz.pinned (OpenSpec.ofChange dispatchSettlesSpec)

/-- ITS FALSE NEIGHBOUR: 'it returns false'. Refute it at one input. -/
def dispatchSettlesWrong : ChangeSpec := { name := "dispatchSettles", fn := fun _ => fun
  | [d1, d2, d3] => { results := [.lit (.bool false)], args := [d1, d2, d3] }
  | _ => none }
def DispatchSettlesWrongFalsely : Prop := dispatchSettlesRow.holds Tryz.pinned (OpenSpec.ofChange dispatchSettlesWrong)

/-- 'septumlaw15.DispatchIdle': WHATEVER THE INPUT: true; the input reads as it did. -/
def dispatchIdleSpec : ChangeSpec := { name := "dispatchIdle", fn := fun _ => fun
  | [d1, d2] => { results := [.lit (.bool true)], args := [d1, d2] }
  | _ => none }
def dispatchIdleRow : OpenClaim := { program := "ytmcmjcaigipoaaagreat", sum := "2668dca2800758d2d9e533efb7a2beeb7523e2d3a12b44e96046fda4cdfd592c", func := "septum/septumlaw15.DispatchIdle", spec := "dispatchIdle", unfollowed := true, recurses := true, apart := false }
def DispatchIdleSaid : Prop := dispatchIdleRow.holds Tryz.pinned (OpenSpec.ofChange dispatchIdleSpec)

/-- ITS FALSE NEIGHBOUR: 'it returns false'. Refute it at one input. -/
def dispatchIdleWrong : ChangeSpec := { name := "dispatchIdle", fn := fun _ => fun
  | [d1, d2] => { results := [.lit (.bool false)], args := [d1, d2] }
  | _ => none }
def DispatchIdleWrongFalsely : Prop := dispatchIdleRow.holds Tryz.pinned (OpenSpec.ofChange dispatchIdleWrong)

/-- 'septumlaw15.DispatchFixed': WHATEVER THE INPUT: true; the input reads as it did. -/
def dispatchFixedSpec : ChangeSpec := { name := "dispatchFixed", fn := fun _ => fun
  | [d1, d2, d3, d4] => { results := [.lit (.bool true)], args := [d1, d2, d3, d4] }
  | _ => none }
def dispatchFixedRow : OpenClaim := { program := "ytmcmjcaigipoaaagreat", sum := "2668dca2800758d2d9e533efb7a2beeb7523e2d3a12b44e96046fda4cdfd592c", func := "septum/septumlaw15.DispatchFixed", spec := "dispatchFixed", unfollowed := true, recurses := true, apart := false }
def DispatchFixedSaid : Prop := dispatchFixedRow.holds Tryz.pinned (OpenSpec.ofChange dispatchFixedSpec)

/-- ITS FALSE NEIGHBOUR: 'it returns false'. Refute it at one input. -/
def dispatchFixedWrong : ChangeSpec := { name := "dispatchFixed", fn := fun _ => fun
  | [d1, d2, d3, d4] => { results := [.lit (.bool false)], args := [d1, d2, d3, d4] }
  | _ => none }
def DispatchFixedWrongFalsely : Prop := dispatchFixedRow.holds Tryz.pinned (OpenSpec.ofChange dispatchFixedWrong)

/- THE SECOND FORM. 'bulk': how many values and letters a reading holds, each counted each time it is reached (what is shared counts as often as it is met; a slice's spare places count too). A statement '..UptoSaid' is the law's where the arguments, and the package variables that the reading takes, are together of bulk at most 1048576: NARROWER than '..Said'. Prove '..Said' where nothing that the law and all that it calls make is longer than what came in: it says more and counts as full. Else prove '..UptoSaid'. A law counts once. -/
mutual
def uptoBulk {H : Type} : DataW H → Nat
  | .lit (.string bytes) => bytes.length + 1
  | .lit _ => 1
  | .nil => 1
  | .ptr d => uptoBulk d + 1
  | .slice elems spare => uptoBulkAll elems + uptoBulkAll spare + 1
  | .agg parts => uptoBulkAll parts + 1
  | .iface _ d => uptoBulk d + 1
  | .map entries => uptoBulkEntries entries + 1
  | .held _ => 1
def uptoBulkAll {H : Type} : List (DataW H) → Nat
  | [] => 0
  | d :: r => uptoBulk d + uptoBulkAll r
def uptoBulkEntries {H : Type} : List (Lit × DataW H) → Nat
  | [] => 0
  | x :: r => uptoBulkEntry x + uptoBulkEntries r
def uptoBulkEntry {H : Type} : Lit × DataW H → Nat
  | (.string bytes, d) => bytes.length + uptoBulk d + 1
  | (_, d) => uptoBulk d + 1
 end
def uptoSmall : (H : Type) → List (DataW H) → Bool := fun _ ds => decide (uptoBulkAll ds ≤ 1048576)
def OpenSpec.upto (s : _root_.Go.ChangeSpec) : _root_.Go.OpenSpec := { _root_.Go.OpenSpec.ofChange s with cond := some uptoSmall }

/-- 'septumlaw15.DispatchSettles', WHERE WHAT IT READS IS OF BULK AT MOST 1048576: true; the input reads as it did. -/
def dispatchSettlesUptoRow : OpenClaim := { program := "ytmcmjcaigipoaaagreat", sum := "2668dca2800758d2d9e533efb7a2beeb7523e2d3a12b44e96046fda4cdfd592c", func := "septum/septumlaw15.DispatchSettles", spec := "dispatchSettles", unfollowed := true, recurses := true, apart := false, narrowed := true }
def DispatchSettlesUptoSaid : Prop := dispatchSettlesUptoRow.holds Tryz.pinned (OpenSpec.upto dispatchSettlesSpec)

/-- 'septumlaw15.DispatchIdle', WHERE WHAT IT READS IS OF BULK AT MOST 1048576: true; the input reads as it did. -/
def dispatchIdleUptoRow : OpenClaim := { program := "ytmcmjcaigipoaaagreat", sum := "2668dca2800758d2d9e533efb7a2beeb7523e2d3a12b44e96046fda4cdfd592c", func := "septum/septumlaw15.DispatchIdle", spec := "dispatchIdle", unfollowed := true, recurses := true, apart := false, narrowed := true }
def DispatchIdleUptoSaid : Prop := dispatchIdleUptoRow.holds Tryz.pinned (OpenSpec.upto dispatchIdleSpec)

/-- 'septumlaw15.DispatchFixed', WHERE WHAT IT READS IS OF BULK AT MOST 1048576: true; the input reads as it did. -/
def dispatchFixedUptoRow : OpenClaim := { program := "ytmcmjcaigipoaaagreat", sum := "2668dca2800758d2d9e533efb7a2beeb7523e2d3a12b44e96046fda4cdfd592c", func := "septum/septumlaw15.DispatchFixed", spec := "dispatchFixed", unfollowed := true, recurses := true, apart := false, narrowed := true }
def DispatchFixedUptoSaid : Prop := dispatchFixedUptoRow.holds Tryz.pinned (OpenSpec.upto dispatchFixedSpec)

end Rows
end Go.Proofs.YtmcmjcaigipoaaaGreat
