/-
  The frame's Swap and Mark. Conditions: the frame and its memory are there, and share no block.
-/
import Derived.Test.YthihbkhgemdpdaaFrame5
import Derived.BigRegion
namespace Go.Proofs.Ythihbkhgemdpdaa
open Go.RowKit Go.Sept

end Go.Proofs.Ythihbkhgemdpdaa
