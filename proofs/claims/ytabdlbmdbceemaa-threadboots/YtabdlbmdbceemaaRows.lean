/-
  No cell of these rows narrows 'for every input' (looked for: loops, veiled, ifaces, maps, wideKeys, modest, calm, conditions, laid).
  DERIVED. THE GIVEN ROWS OF THIS SEAT. 4 by the template 'for every input the law returns true; each argument reads behind the call as it read before'; 0 by the template 'total and deterministic' (their statements: YtabdlbmdbceemaaTotals.lean).
  GIVEN WITH THE SEED: the statements are not yours to turn. If you find one false, say at which input.
  Laid BY PROGRAM, IN A SANDBOX (cutbox-rows.mjs): the forced cells as the released guide's own fill.sh prints them over the translation 1a8e45fc9e5e2783… (all of the seat's roots in one cut). By AI agents, Wed Nov 11 2026. No macro, syntax, notation, axiom, sorry.
-/
import Derived.Test.YtabdlbmdbceemaaChecked
import GoSem.Claim
import GoSem.ClaimJoined
import GoSem.ClaimMapViews
import Derived.JoinedTies
import Derived.KernelRfl
namespace Go.Proofs.Ytabdlbmdbceemaa
/- THE CELL 'sum', in the pinned program and in every row, IS THE sha256 OF THE DUMP (.gsa) THAT YtabdlbmdbceemaaProg.lean LOADS. Nothing in Lean hashes anything: it is a label: what it is worth is what the hold of that sum in a sandbox is worth. -/
noncomputable def Try.pinned : Pinned := { name := "ytabdlbmdbceemaa", sum := "1a8e45fc9e5e27833d5f2e4395ea95d1537900f34c9310eb78888d738288c7be", checked := Try.checked }
namespace Rows
def none {H : Type} : Left H := { results := [], args := [] }

/-- 'septumlaw13.ThreadNodes': WHATEVER THE INPUT: true; the input reads as it did. -/
def threadNodesSpec : ChangeSpec := { name := "threadNodes", fn := fun _ => fun
  | [d1, d2, d3] => { results := [.lit (.bool true)], args := [d1, d2, d3] }
  | _ => none }
def threadNodesRow : OpenClaim := { program := "ytabdlbmdbceemaa", sum := "1a8e45fc9e5e27833d5f2e4395ea95d1537900f34c9310eb78888d738288c7be", func := "septum/septumlaw13.ThreadNodes", spec := "threadNodes", apart := false }
def ThreadNodesSaid : Prop := threadNodesRow.holds Try.pinned (OpenSpec.ofChange threadNodesSpec)

/-- ITS FALSE NEIGHBOUR: 'it returns false'. Refute it at one input. -/
def threadNodesWrong : ChangeSpec := { name := "threadNodes", fn := fun _ => fun
  | [d1, d2, d3] => { results := [.lit (.bool false)], args := [d1, d2, d3] }
  | _ => none }
def ThreadNodesWrongFalsely : Prop := threadNodesRow.holds Try.pinned (OpenSpec.ofChange threadNodesWrong)

/-- 'septumlaw13.ThreadFields': WHATEVER THE INPUT: true; the input reads as it did. -/
def threadFieldsSpec : ChangeSpec := { name := "threadFields", fn := fun _ => fun
  | [d1, d2, d3, d4, d5, d6, d7] => { results := [.lit (.bool true)], args := [d1, d2, d3, d4, d5, d6, d7] }
  | _ => none }
def threadFieldsRow : OpenClaim := { program := "ytabdlbmdbceemaa", sum := "1a8e45fc9e5e27833d5f2e4395ea95d1537900f34c9310eb78888d738288c7be", func := "septum/septumlaw13.ThreadFields", spec := "threadFields", unfollowed := true, recurses := true, apart := false }
def ThreadFieldsSaid : Prop := threadFieldsRow.holds Try.pinned (OpenSpec.ofChange threadFieldsSpec)

/-- ITS FALSE NEIGHBOUR: 'it returns false'. Refute it at one input. -/
def threadFieldsWrong : ChangeSpec := { name := "threadFields", fn := fun _ => fun
  | [d1, d2, d3, d4, d5, d6, d7] => { results := [.lit (.bool false)], args := [d1, d2, d3, d4, d5, d6, d7] }
  | _ => none }
def ThreadFieldsWrongFalsely : Prop := threadFieldsRow.holds Try.pinned (OpenSpec.ofChange threadFieldsWrong)

/-- 'septumlaw13.ThreadOdd': WHATEVER THE INPUT: true; the input reads as it did. -/
def threadOddSpec : ChangeSpec := { name := "threadOdd", fn := fun _ => fun
  | [d1, d2, d3, d4] => { results := [.lit (.bool true)], args := [d1, d2, d3, d4] }
  | _ => none }
def threadOddRow : OpenClaim := { program := "ytabdlbmdbceemaa", sum := "1a8e45fc9e5e27833d5f2e4395ea95d1537900f34c9310eb78888d738288c7be", func := "septum/septumlaw13.ThreadOdd", spec := "threadOdd", unfollowed := true, recurses := true, apart := false }
def ThreadOddSaid : Prop := threadOddRow.holds Try.pinned (OpenSpec.ofChange threadOddSpec)

/-- ITS FALSE NEIGHBOUR: 'it returns false'. Refute it at one input. -/
def threadOddWrong : ChangeSpec := { name := "threadOdd", fn := fun _ => fun
  | [d1, d2, d3, d4] => { results := [.lit (.bool false)], args := [d1, d2, d3, d4] }
  | _ => none }
def ThreadOddWrongFalsely : Prop := threadOddRow.holds Try.pinned (OpenSpec.ofChange threadOddWrong)

/-- 'septumlaw13.ThreadBoots': WHATEVER THE INPUT: true; the input reads as it did. -/
def threadBootsSpec : ChangeSpec := { name := "threadBoots", fn := fun _ => fun
  | [d] => { results := [.lit (.bool true)], args := [d] }
  | _ => none }
def threadBootsRow : OpenClaim := { program := "ytabdlbmdbceemaa", sum := "1a8e45fc9e5e27833d5f2e4395ea95d1537900f34c9310eb78888d738288c7be", func := "septum/septumlaw13.ThreadBoots", spec := "threadBoots", unfollowed := true, recurses := true, apart := false }
def ThreadBootsSaid : Prop := threadBootsRow.holds Try.pinned (OpenSpec.ofChange threadBootsSpec)

/-- ITS FALSE NEIGHBOUR: 'it returns false'. Refute it at one input. -/
def threadBootsWrong : ChangeSpec := { name := "threadBoots", fn := fun _ => fun
  | [d] => { results := [.lit (.bool false)], args := [d] }
  | _ => none }
def ThreadBootsWrongFalsely : Prop := threadBootsRow.holds Try.pinned (OpenSpec.ofChange threadBootsWrong)

/- THE SECOND FORM. 'bulk': how many values and letters a reading holds, each counted each time it is reached (what is shared counts as often as it is met; a slice's spare places count too). A statement '..UptoSaid' is the law's where the arguments, and the package variables that the reading takes, are together of bulk at most 1048576: NARROWER than '..Said'. Prove '..Said' where nothing that the law and all that it calls make is longer than what came in: it says more and counts as full. Else prove '..UptoSaid'. A law counts once. -/
mutual
def uptoBulk {H : Type} : DataW H → Nat
  | .lit (.string bytes) => bytes.length + 1
  | .lit _ => 1
  | .nil => 1
  | .ptr d => uptoBulk d + 1
  | .slice elems spare => uptoBulkAll elems + uptoBulkAll spare + 1
  | .agg parts => uptoBulkAll parts + 1
  | .iface _ d => uptoBulk d + 1
  | .map entries => uptoBulkEntries entries + 1
  | .held _ => 1
def uptoBulkAll {H : Type} : List (DataW H) → Nat
  | [] => 0
  | d :: r => uptoBulk d + uptoBulkAll r
def uptoBulkEntries {H : Type} : List (Lit × DataW H) → Nat
  | [] => 0
  | x :: r => uptoBulkEntry x + uptoBulkEntries r
def uptoBulkEntry {H : Type} : Lit × DataW H → Nat
  | (.string bytes, d) => bytes.length + uptoBulk d + 1
  | (_, d) => uptoBulk d + 1
 end
def uptoSmall : (H : Type) → List (DataW H) → Bool := fun _ ds => decide (uptoBulkAll ds ≤ 1048576)
def OpenSpec.upto (s : _root_.Go.ChangeSpec) : _root_.Go.OpenSpec := { _root_.Go.OpenSpec.ofChange s with cond := some uptoSmall }

/-- 'septumlaw13.ThreadNodes', WHERE WHAT IT READS IS OF BULK AT MOST 1048576: true; the input reads as it did. -/
def threadNodesUptoRow : OpenClaim := { program := "ytabdlbmdbceemaa", sum := "1a8e45fc9e5e27833d5f2e4395ea95d1537900f34c9310eb78888d738288c7be", func := "septum/septumlaw13.ThreadNodes", spec := "threadNodes", apart := false, narrowed := true }
def ThreadNodesUptoSaid : Prop := threadNodesUptoRow.holds Try.pinned (OpenSpec.upto threadNodesSpec)

/-- 'septumlaw13.ThreadFields', WHERE WHAT IT READS IS OF BULK AT MOST 1048576: true; the input reads as it did. -/
def threadFieldsUptoRow : OpenClaim := { program := "ytabdlbmdbceemaa", sum := "1a8e45fc9e5e27833d5f2e4395ea95d1537900f34c9310eb78888d738288c7be", func := "septum/septumlaw13.ThreadFields", spec := "threadFields", unfollowed := true, recurses := true, apart := false, narrowed := true }
def ThreadFieldsUptoSaid : Prop := threadFieldsUptoRow.holds Try.pinned (OpenSpec.upto threadFieldsSpec)

/-- 'septumlaw13.ThreadOdd', WHERE WHAT IT READS IS OF BULK AT MOST 1048576: true; the input reads as it did. -/
def threadOddUptoRow : OpenClaim := { program := "ytabdlbmdbceemaa", sum := "1a8e45fc9e5e27833d5f2e4395ea95d1537900f34c9310eb78888d738288c7be", func := "septum/septumlaw13.ThreadOdd", spec := "threadOdd", unfollowed := true, recurses := true, apart := false, narrowed := true }
def ThreadOddUptoSaid : Prop := threadOddUptoRow.holds Try.pinned (OpenSpec.upto threadOddSpec)

/-- 'septumlaw13.ThreadBoots', WHERE WHAT IT READS IS OF BULK AT MOST 1048576: true; the input reads as it did. -/
def threadBootsUptoRow : OpenClaim := { program := "ytabdlbmdbceemaa", sum := "1a8e45fc9e5e27833d5f2e4395ea95d1537900f34c9310eb78888d738288c7be", func := "septum/septumlaw13.ThreadBoots", spec := "threadBoots", unfollowed := true, recurses := true, apart := false, narrowed := true }
def ThreadBootsUptoSaid : Prop := threadBootsUptoRow.holds Try.pinned (OpenSpec.upto threadBootsSpec)

end Rows
end Go.Proofs.Ytabdlbmdbceemaa
