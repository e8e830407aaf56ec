/-
  The frame's Swap and Mark. Conditions: the frame and its memory are there, and share no block.
-/
import Derived.Test.YtapmakdklpbjkaaFrame5
import Derived.BigRegion
namespace Go.Proofs.Ytapmakdklpbjkaa
open Go.RowKit Go.Sept

end Go.Proofs.Ytapmakdklpbjkaa
