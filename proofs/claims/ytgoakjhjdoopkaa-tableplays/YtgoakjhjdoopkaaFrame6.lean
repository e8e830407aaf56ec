/-
  The frame's Swap and Mark. Conditions: the frame and its memory are there, and share no block.
-/
import Derived.Test.YtgoakjhjdoopkaaFrame5
import Derived.BigRegion
namespace Go.Proofs.Ytgoakjhjdoopkaa
open Go.RowKit Go.Sept

end Go.Proofs.Ytgoakjhjdoopkaa
