/-
  The frame's Swap and Mark. Conditions: the frame and its memory are there, and share no block.
-/
import Derived.Test.YtabdlbmdbceemaaFrame1
import Derived.BigRegion
namespace Go.Proofs.Ytabdlbmdbceemaa
open Go.RowKit Go.Sept

end Go.Proofs.Ytabdlbmdbceemaa

/-
  The frame's Mark, where there is an access ahead. Conditions: the frame is there.
-/
namespace Go.Proofs.Ytabdlbmdbceemaa
open Go.RowKit Go.Sept

theorem toMark_mp (s : FrSt) : s.toMark.mp = s.mp := by
  unfold FrSt.toMark
  split <;> rfl

end Go.Proofs.Ytabdlbmdbceemaa
