/-
  No cell of these rows narrows 'for every input' (looked for: loops, veiled, ifaces, maps, wideKeys, modest, calm, conditions, laid).
  DERIVED. THE GIVEN ROWS OF THIS SEAT. 4 by the template 'for every input the law returns true; each argument reads behind the call as it read before'; 0 by the template 'total and deterministic' (their statements: YtpmchlnnlanokaaTotals.lean).
  GIVEN WITH THE SEED: the statements are not yours to turn. If you find one false, say at which input.
  Laid BY PROGRAM, IN A SANDBOX (cutbox-rows.mjs): the forced cells as the released guide's own fill.sh prints them over the translation 12f1d2a5bac4b0b6… (all of the seat's roots in one cut). By AI agents, Wed Nov 11 2026. No macro, syntax, notation, axiom, sorry.
-/
import Derived.Test.YtpmchlnnlanokaaChecked
import GoSem.Claim
import GoSem.ClaimJoined
import GoSem.ClaimMapViews
import Derived.JoinedTies
import Derived.KernelRfl
namespace Go.Proofs.Ytpmchlnnlanokaa
/- THE CELL 'sum', in the pinned program and in every row, IS THE sha256 OF THE DUMP (.gsa) THAT YtpmchlnnlanokaaProg.lean LOADS. Nothing in Lean hashes anything: it is a label: what it is worth is what the hold of that sum in a sandbox is worth. -/
noncomputable def Try.pinned : Pinned := { name := "ytpmchlnnlanokaa", sum := "12f1d2a5bac4b0b6b61cbb2b11faba8f949de8663f813f0900aeebf3ae3ae9fa", checked := Try.checked }
namespace Rows
def none {H : Type} : Left H := { results := [], args := [] }

/-- 'septumlaw11.ConfigValid': WHATEVER THE INPUT: true; the input reads as it did. -/
def configValidSpec : ChangeSpec := { name := "configValid", fn := fun _ => fun
  | [d] => { results := [.lit (.bool true)], args := [d] }
  | _ => none }
def configValidRow : OpenClaim := { program := "ytpmchlnnlanokaa", sum := "12f1d2a5bac4b0b6b61cbb2b11faba8f949de8663f813f0900aeebf3ae3ae9fa", func := "septum/septumlaw11.ConfigValid", spec := "configValid", apart := false }
def ConfigValidSaid : Prop := configValidRow.holds Try.pinned (OpenSpec.ofChange configValidSpec)

/-- ITS FALSE NEIGHBOUR: 'it returns false'. Refute it at one input. -/
def configValidWrong : ChangeSpec := { name := "configValid", fn := fun _ => fun
  | [d] => { results := [.lit (.bool false)], args := [d] }
  | _ => none }
def ConfigValidWrongFalsely : Prop := configValidRow.holds Try.pinned (OpenSpec.ofChange configValidWrong)

/-- 'septumlaw11.ConfigLeads': WHATEVER THE INPUT: true; the input reads as it did. -/
def configLeadsSpec : ChangeSpec := { name := "configLeads", fn := fun _ => fun
  | [d1, d2, d3] => { results := [.lit (.bool true)], args := [d1, d2, d3] }
  | _ => none }
def configLeadsRow : OpenClaim := { program := "ytpmchlnnlanokaa", sum := "12f1d2a5bac4b0b6b61cbb2b11faba8f949de8663f813f0900aeebf3ae3ae9fa", func := "septum/septumlaw11.ConfigLeads", spec := "configLeads", apart := false }
def ConfigLeadsSaid : Prop := configLeadsRow.holds Try.pinned (OpenSpec.ofChange configLeadsSpec)

/-- ITS FALSE NEIGHBOUR: 'it returns false'. Refute it at one input. -/
def configLeadsWrong : ChangeSpec := { name := "configLeads", fn := fun _ => fun
  | [d1, d2, d3] => { results := [.lit (.bool false)], args := [d1, d2, d3] }
  | _ => none }
def ConfigLeadsWrongFalsely : Prop := configLeadsRow.holds Try.pinned (OpenSpec.ofChange configLeadsWrong)

/-- 'septumlaw11.ConfigChains': WHATEVER THE INPUT: true; the input reads as it did. -/
def configChainsSpec : ChangeSpec := { name := "configChains", fn := fun _ => fun
  | [d1, d2, d3, d4] => { results := [.lit (.bool true)], args := [d1, d2, d3, d4] }
  | _ => none }
def configChainsRow : OpenClaim := { program := "ytpmchlnnlanokaa", sum := "12f1d2a5bac4b0b6b61cbb2b11faba8f949de8663f813f0900aeebf3ae3ae9fa", func := "septum/septumlaw11.ConfigChains", spec := "configChains", apart := false }
def ConfigChainsSaid : Prop := configChainsRow.holds Try.pinned (OpenSpec.ofChange configChainsSpec)

/-- ITS FALSE NEIGHBOUR: 'it returns false'. Refute it at one input. -/
def configChainsWrong : ChangeSpec := { name := "configChains", fn := fun _ => fun
  | [d1, d2, d3, d4] => { results := [.lit (.bool false)], args := [d1, d2, d3, d4] }
  | _ => none }
def ConfigChainsWrongFalsely : Prop := configChainsRow.holds Try.pinned (OpenSpec.ofChange configChainsWrong)

/-- 'septumlaw11.ConfigClones': WHATEVER THE INPUT: true; the input reads as it did. -/
def configClonesSpec : ChangeSpec := { name := "configClones", fn := fun _ => fun
  | [d] => { results := [.lit (.bool true)], args := [d] }
  | _ => none }
def configClonesRow : OpenClaim := { program := "ytpmchlnnlanokaa", sum := "12f1d2a5bac4b0b6b61cbb2b11faba8f949de8663f813f0900aeebf3ae3ae9fa", func := "septum/septumlaw11.ConfigClones", spec := "configClones", apart := false }
def ConfigClonesSaid : Prop := configClonesRow.holds Try.pinned (OpenSpec.ofChange configClonesSpec)

/-- ITS FALSE NEIGHBOUR: 'it returns false'. Refute it at one input. -/
def configClonesWrong : ChangeSpec := { name := "configClones", fn := fun _ => fun
  | [d] => { results := [.lit (.bool false)], args := [d] }
  | _ => none }
def ConfigClonesWrongFalsely : Prop := configClonesRow.holds Try.pinned (OpenSpec.ofChange configClonesWrong)

/- THE SECOND FORM. 'bulk': how many values and letters a reading holds, each counted each time it is reached (what is shared counts as often as it is met; a slice's spare places count too). A statement '..UptoSaid' is the law's where the arguments, and the package variables that the reading takes, are together of bulk at most 1048576: NARROWER than '..Said'. Prove '..Said' where nothing that the law and all that it calls make is longer than what came in: it says more and counts as full. Else prove '..UptoSaid'. A law counts once. -/
mutual
def uptoBulk {H : Type} : DataW H → Nat
  | .lit (.string bytes) => bytes.length + 1
  | .lit _ => 1
  | .nil => 1
  | .ptr d => uptoBulk d + 1
  | .slice elems spare => uptoBulkAll elems + uptoBulkAll spare + 1
  | .agg parts => uptoBulkAll parts + 1
  | .iface _ d => uptoBulk d + 1
  | .map entries => uptoBulkEntries entries + 1
  | .held _ => 1
def uptoBulkAll {H : Type} : List (DataW H) → Nat
  | [] => 0
  | d :: r => uptoBulk d + uptoBulkAll r
def uptoBulkEntries {H : Type} : List (Lit × DataW H) → Nat
  | [] => 0
  | x :: r => uptoBulkEntry x + uptoBulkEntries r
def uptoBulkEntry {H : Type} : Lit × DataW H → Nat
  | (.string bytes, d) => bytes.length + uptoBulk d + 1
  | (_, d) => uptoBulk d + 1
 end
def uptoSmall : (H : Type) → List (DataW H) → Bool := fun _ ds => decide (uptoBulkAll ds ≤ 1048576)
def OpenSpec.upto (s : _root_.Go.ChangeSpec) : _root_.Go.OpenSpec := { _root_.Go.OpenSpec.ofChange s with cond := some uptoSmall }

/-- 'septumlaw11.ConfigValid', WHERE WHAT IT READS IS OF BULK AT MOST 1048576: true; the input reads as it did. -/
def configValidUptoRow : OpenClaim := { program := "ytpmchlnnlanokaa", sum := "12f1d2a5bac4b0b6b61cbb2b11faba8f949de8663f813f0900aeebf3ae3ae9fa", func := "septum/septumlaw11.ConfigValid", spec := "configValid", apart := false, narrowed := true }
def ConfigValidUptoSaid : Prop := configValidUptoRow.holds Try.pinned (OpenSpec.upto configValidSpec)

/-- 'septumlaw11.ConfigLeads', WHERE WHAT IT READS IS OF BULK AT MOST 1048576: true; the input reads as it did. -/
def configLeadsUptoRow : OpenClaim := { program := "ytpmchlnnlanokaa", sum := "12f1d2a5bac4b0b6b61cbb2b11faba8f949de8663f813f0900aeebf3ae3ae9fa", func := "septum/septumlaw11.ConfigLeads", spec := "configLeads", apart := false, narrowed := true }
def ConfigLeadsUptoSaid : Prop := configLeadsUptoRow.holds Try.pinned (OpenSpec.upto configLeadsSpec)

/-- 'septumlaw11.ConfigChains', WHERE WHAT IT READS IS OF BULK AT MOST 1048576: true; the input reads as it did. -/
def configChainsUptoRow : OpenClaim := { program := "ytpmchlnnlanokaa", sum := "12f1d2a5bac4b0b6b61cbb2b11faba8f949de8663f813f0900aeebf3ae3ae9fa", func := "septum/septumlaw11.ConfigChains", spec := "configChains", apart := false, narrowed := true }
def ConfigChainsUptoSaid : Prop := configChainsUptoRow.holds Try.pinned (OpenSpec.upto configChainsSpec)

/-- 'septumlaw11.ConfigClones', WHERE WHAT IT READS IS OF BULK AT MOST 1048576: true; the input reads as it did. -/
def configClonesUptoRow : OpenClaim := { program := "ytpmchlnnlanokaa", sum := "12f1d2a5bac4b0b6b61cbb2b11faba8f949de8663f813f0900aeebf3ae3ae9fa", func := "septum/septumlaw11.ConfigClones", spec := "configClones", apart := false, narrowed := true }
def ConfigClonesUptoSaid : Prop := configClonesUptoRow.holds Try.pinned (OpenSpec.upto configClonesSpec)

end Rows
end Go.Proofs.Ytpmchlnnlanokaa
