/-
  No cell of these rows narrows 'for every input' (looked for: loops, veiled, ifaces, maps, wideKeys, modest, calm, conditions, laid).
  DERIVED. THE GIVEN ROWS OF THIS SEAT. 6 by the template 'for every input the law returns true; each argument reads behind the call as it read before'; 0 by the template 'total and deterministic' (their statements: YtfdfjibhbfdloaaTotals.lean).
  GIVEN WITH THE SEED: the statements are not yours to turn. If you find one false, say at which input.
  Laid BY PROGRAM, IN A SANDBOX (cutbox-rows.mjs): the forced cells as the released guide's own fill.sh prints them over the translation 77ae402264397f9e… (all of the seat's roots in one cut). By AI agents, Wed Nov 11 2026. No macro, syntax, notation, axiom, sorry.
-/
import Derived.Test.YtfdfjibhbfdloaaChecked
import GoSem.Claim
import GoSem.ClaimJoined
import GoSem.ClaimMapViews
import Derived.JoinedTies
import Derived.KernelRfl
namespace Go.Proofs.Ytfdfjibhbfdloaa
/- THE CELL 'sum', in the pinned program and in every row, IS THE sha256 OF THE DUMP (.gsa) THAT YtfdfjibhbfdloaaProg.lean LOADS. Nothing in Lean hashes anything: it is a label: what it is worth is what the hold of that sum in a sandbox is worth. -/
noncomputable def Try.pinned : Pinned := { name := "ytfdfjibhbfdloaa", sum := "77ae402264397f9ee22d85b99b464541584a302183dc1d653592bf16140f2d31", checked := Try.checked }
namespace Rows
def none {H : Type} : Left H := { results := [], args := [] }

/-- 'septumlaw02.FrameSteps': WHATEVER THE INPUT: true; the input reads as it did. -/
def frameStepsSpec : ChangeSpec := { name := "frameSteps", fn := fun _ => fun
  | [d1, d2] => { results := [.lit (.bool true)], args := [d1, d2] }
  | _ => none }
def frameStepsRow : OpenClaim := { program := "ytfdfjibhbfdloaa", sum := "77ae402264397f9ee22d85b99b464541584a302183dc1d653592bf16140f2d31", func := "septum/septumlaw02.FrameSteps", spec := "frameSteps", unfollowed := true, recurses := true, apart := false }
def FrameStepsSaid : Prop := frameStepsRow.holds Try.pinned (OpenSpec.ofChange frameStepsSpec)

/-- ITS FALSE NEIGHBOUR: 'it returns false'. Refute it at one input. -/
def frameStepsWrong : ChangeSpec := { name := "frameSteps", fn := fun _ => fun
  | [d1, d2] => { results := [.lit (.bool false)], args := [d1, d2] }
  | _ => none }
def FrameStepsWrongFalsely : Prop := frameStepsRow.holds Try.pinned (OpenSpec.ofChange frameStepsWrong)

/-- 'septumlaw02.FrameTwo': WHATEVER THE INPUT: true; the input reads as it did. -/
def frameTwoSpec : ChangeSpec := { name := "frameTwo", fn := fun _ => fun
  | [d1, d2] => { results := [.lit (.bool true)], args := [d1, d2] }
  | _ => none }
def frameTwoRow : OpenClaim := { program := "ytfdfjibhbfdloaa", sum := "77ae402264397f9ee22d85b99b464541584a302183dc1d653592bf16140f2d31", func := "septum/septumlaw02.FrameTwo", spec := "frameTwo", unfollowed := true, recurses := true, apart := false }
def FrameTwoSaid : Prop := frameTwoRow.holds Try.pinned (OpenSpec.ofChange frameTwoSpec)

/-- ITS FALSE NEIGHBOUR: 'it returns false'. Refute it at one input. -/
def frameTwoWrong : ChangeSpec := { name := "frameTwo", fn := fun _ => fun
  | [d1, d2] => { results := [.lit (.bool false)], args := [d1, d2] }
  | _ => none }
def FrameTwoWrongFalsely : Prop := frameTwoRow.holds Try.pinned (OpenSpec.ofChange frameTwoWrong)

/-- 'septumlaw02.FrameRuns': WHATEVER THE INPUT: true; the input reads as it did. -/
def frameRunsSpec : ChangeSpec := { name := "frameRuns", fn := fun _ => fun
  | [d1, d2] => { results := [.lit (.bool true)], args := [d1, d2] }
  | _ => none }
def frameRunsRow : OpenClaim := { program := "ytfdfjibhbfdloaa", sum := "77ae402264397f9ee22d85b99b464541584a302183dc1d653592bf16140f2d31", func := "septum/septumlaw02.FrameRuns", spec := "frameRuns", unfollowed := true, recurses := true, apart := false }
def FrameRunsSaid : Prop := frameRunsRow.holds Try.pinned (OpenSpec.ofChange frameRunsSpec)

/-- ITS FALSE NEIGHBOUR: 'it returns false'. Refute it at one input. -/
def frameRunsWrong : ChangeSpec := { name := "frameRuns", fn := fun _ => fun
  | [d1, d2] => { results := [.lit (.bool false)], args := [d1, d2] }
  | _ => none }
def FrameRunsWrongFalsely : Prop := frameRunsRow.holds Try.pinned (OpenSpec.ofChange frameRunsWrong)

/-- 'septumlaw03.TicketTurns': WHATEVER THE INPUT: true; the input reads as it did. -/
def ticketTurnsSpec : ChangeSpec := { name := "ticketTurns", fn := fun _ => fun
  | [d1, d2, d3] => { results := [.lit (.bool true)], args := [d1, d2, d3] }
  | _ => none }
def ticketTurnsRow : OpenClaim := { program := "ytfdfjibhbfdloaa", sum := "77ae402264397f9ee22d85b99b464541584a302183dc1d653592bf16140f2d31", func := "septum/septumlaw03.TicketTurns", spec := "ticketTurns", unfollowed := true, recurses := true, apart := false }
def TicketTurnsSaid : Prop := ticketTurnsRow.holds Try.pinned (OpenSpec.ofChange ticketTurnsSpec)

/-- ITS FALSE NEIGHBOUR: 'it returns false'. Refute it at one input. -/
def ticketTurnsWrong : ChangeSpec := { name := "ticketTurns", fn := fun _ => fun
  | [d1, d2, d3] => { results := [.lit (.bool false)], args := [d1, d2, d3] }
  | _ => none }
def TicketTurnsWrongFalsely : Prop := ticketTurnsRow.holds Try.pinned (OpenSpec.ofChange ticketTurnsWrong)

/-- 'septumlaw03.TicketCalls': WHATEVER THE INPUT: true; the input reads as it did. -/
def ticketCallsSpec : ChangeSpec := { name := "ticketCalls", fn := fun _ => fun
  | [d1, d2, d3] => { results := [.lit (.bool true)], args := [d1, d2, d3] }
  | _ => none }
def ticketCallsRow : OpenClaim := { program := "ytfdfjibhbfdloaa", sum := "77ae402264397f9ee22d85b99b464541584a302183dc1d653592bf16140f2d31", func := "septum/septumlaw03.TicketCalls", spec := "ticketCalls", unfollowed := true, recurses := true, apart := false }
def TicketCallsSaid : Prop := ticketCallsRow.holds Try.pinned (OpenSpec.ofChange ticketCallsSpec)

/-- ITS FALSE NEIGHBOUR: 'it returns false'. Refute it at one input. -/
def ticketCallsWrong : ChangeSpec := { name := "ticketCalls", fn := fun _ => fun
  | [d1, d2, d3] => { results := [.lit (.bool false)], args := [d1, d2, d3] }
  | _ => none }
def TicketCallsWrongFalsely : Prop := ticketCallsRow.holds Try.pinned (OpenSpec.ofChange ticketCallsWrong)

/-- 'septumlaw03.TicketWaits': WHATEVER THE INPUT: true; the input reads as it did. -/
def ticketWaitsSpec : ChangeSpec := { name := "ticketWaits", fn := fun _ => fun
  | [d] => { results := [.lit (.bool true)], args := [d] }
  | _ => none }
def ticketWaitsRow : OpenClaim := { program := "ytfdfjibhbfdloaa", sum := "77ae402264397f9ee22d85b99b464541584a302183dc1d653592bf16140f2d31", func := "septum/septumlaw03.TicketWaits", spec := "ticketWaits", unfollowed := true, recurses := true, apart := false }
def TicketWaitsSaid : Prop := ticketWaitsRow.holds Try.pinned (OpenSpec.ofChange ticketWaitsSpec)

/-- ITS FALSE NEIGHBOUR: 'it returns false'. Refute it at one input. -/
def ticketWaitsWrong : ChangeSpec := { name := "ticketWaits", fn := fun _ => fun
  | [d] => { results := [.lit (.bool false)], args := [d] }
  | _ => none }
def TicketWaitsWrongFalsely : Prop := ticketWaitsRow.holds Try.pinned (OpenSpec.ofChange ticketWaitsWrong)

/- THE SECOND FORM. 'bulk': how many values and letters a reading holds, each counted each time it is reached (what is shared counts as often as it is met; a slice's spare places count too). A statement '..UptoSaid' is the law's where the arguments, and the package variables that the reading takes, are together of bulk at most 1048576: NARROWER than '..Said'. Prove '..Said' where nothing that the law and all that it calls make is longer than what came in: it says more and counts as full. Else prove '..UptoSaid'. A law counts once. -/
mutual
def uptoBulk {H : Type} : DataW H → Nat
  | .lit (.string bytes) => bytes.length + 1
  | .lit _ => 1
  | .nil => 1
  | .ptr d => uptoBulk d + 1
  | .slice elems spare => uptoBulkAll elems + uptoBulkAll spare + 1
  | .agg parts => uptoBulkAll parts + 1
  | .iface _ d => uptoBulk d + 1
  | .map entries => uptoBulkEntries entries + 1
  | .held _ => 1
def uptoBulkAll {H : Type} : List (DataW H) → Nat
  | [] => 0
  | d :: r => uptoBulk d + uptoBulkAll r
def uptoBulkEntries {H : Type} : List (Lit × DataW H) → Nat
  | [] => 0
  | x :: r => uptoBulkEntry x + uptoBulkEntries r
def uptoBulkEntry {H : Type} : Lit × DataW H → Nat
  | (.string bytes, d) => bytes.length + uptoBulk d + 1
  | (_, d) => uptoBulk d + 1
 end
def uptoSmall : (H : Type) → List (DataW H) → Bool := fun _ ds => decide (uptoBulkAll ds ≤ 1048576)
def OpenSpec.upto (s : _root_.Go.ChangeSpec) : _root_.Go.OpenSpec := { _root_.Go.OpenSpec.ofChange s with cond := some uptoSmall }

/-- 'septumlaw02.FrameSteps', WHERE WHAT IT READS IS OF BULK AT MOST 1048576: true; the input reads as it did. -/
def frameStepsUptoRow : OpenClaim := { program := "ytfdfjibhbfdloaa", sum := "77ae402264397f9ee22d85b99b464541584a302183dc1d653592bf16140f2d31", func := "septum/septumlaw02.FrameSteps", spec := "frameSteps", unfollowed := true, recurses := true, apart := false, narrowed := true }
def FrameStepsUptoSaid : Prop := frameStepsUptoRow.holds Try.pinned (OpenSpec.upto frameStepsSpec)

/-- 'septumlaw02.FrameTwo', WHERE WHAT IT READS IS OF BULK AT MOST 1048576: true; the input reads as it did. -/
def frameTwoUptoRow : OpenClaim := { program := "ytfdfjibhbfdloaa", sum := "77ae402264397f9ee22d85b99b464541584a302183dc1d653592bf16140f2d31", func := "septum/septumlaw02.FrameTwo", spec := "frameTwo", unfollowed := true, recurses := true, apart := false, narrowed := true }
def FrameTwoUptoSaid : Prop := frameTwoUptoRow.holds Try.pinned (OpenSpec.upto frameTwoSpec)

/-- 'septumlaw02.FrameRuns', WHERE WHAT IT READS IS OF BULK AT MOST 1048576: true; the input reads as it did. -/
def frameRunsUptoRow : OpenClaim := { program := "ytfdfjibhbfdloaa", sum := "77ae402264397f9ee22d85b99b464541584a302183dc1d653592bf16140f2d31", func := "septum/septumlaw02.FrameRuns", spec := "frameRuns", unfollowed := true, recurses := true, apart := false, narrowed := true }
def FrameRunsUptoSaid : Prop := frameRunsUptoRow.holds Try.pinned (OpenSpec.upto frameRunsSpec)

/-- 'septumlaw03.TicketTurns', WHERE WHAT IT READS IS OF BULK AT MOST 1048576: true; the input reads as it did. -/
def ticketTurnsUptoRow : OpenClaim := { program := "ytfdfjibhbfdloaa", sum := "77ae402264397f9ee22d85b99b464541584a302183dc1d653592bf16140f2d31", func := "septum/septumlaw03.TicketTurns", spec := "ticketTurns", unfollowed := true, recurses := true, apart := false, narrowed := true }
def TicketTurnsUptoSaid : Prop := ticketTurnsUptoRow.holds Try.pinned (OpenSpec.upto ticketTurnsSpec)

/-- 'septumlaw03.TicketCalls', WHERE WHAT IT READS IS OF BULK AT MOST 1048576: true; the input reads as it did. -/
def ticketCallsUptoRow : OpenClaim := { program := "ytfdfjibhbfdloaa", sum := "77ae402264397f9ee22d85b99b464541584a302183dc1d653592bf16140f2d31", func := "septum/septumlaw03.TicketCalls", spec := "ticketCalls", unfollowed := true, recurses := true, apart := false, narrowed := true }
def TicketCallsUptoSaid : Prop := ticketCallsUptoRow.holds Try.pinned (OpenSpec.upto ticketCallsSpec)

/-- 'septumlaw03.TicketWaits', WHERE WHAT IT READS IS OF BULK AT MOST 1048576: true; the input reads as it did. -/
def ticketWaitsUptoRow : OpenClaim := { program := "ytfdfjibhbfdloaa", sum := "77ae402264397f9ee22d85b99b464541584a302183dc1d653592bf16140f2d31", func := "septum/septumlaw03.TicketWaits", spec := "ticketWaits", unfollowed := true, recurses := true, apart := false, narrowed := true }
def TicketWaitsUptoSaid : Prop := ticketWaitsUptoRow.holds Try.pinned (OpenSpec.upto ticketWaitsSpec)

end Rows
end Go.Proofs.Ytfdfjibhbfdloaa
