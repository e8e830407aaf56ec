/-
  The frame's Mark, where there is an access ahead. Conditions: the frame is there.
-/
import Derived.Test.YtgoakjhjdoopkaaFrame6
namespace Go.Proofs.Ytgoakjhjdoopkaa
open Go.RowKit Go.Sept

theorem toMark_mp (s : FrSt) : s.toMark.mp = s.mp := by
  unfold FrSt.toMark
  split <;> rfl

end Go.Proofs.Ytgoakjhjdoopkaa
