/-
  The frame's Mark, where there is an access ahead. Conditions: the frame is there.
-/
import Derived.Test.YtapmakdklpbjkaaFrame6
namespace Go.Proofs.Ytapmakdklpbjkaa
open Go.RowKit Go.Sept

theorem toMark_mp (s : FrSt) : s.toMark.mp = s.mp := by
  unfold FrSt.toMark
  split <;> rfl

end Go.Proofs.Ytapmakdklpbjkaa
