/-
  A fact that the walk does not look at. Conditions: none.
-/
import Derived.WalkKit
import Derived.Below
namespace Go.Proofs.YtmcmjcaigipoaaaGreat
open Go.RowKit
theorem hid {p : Prop} (h : p) : Hid p := h
end Go.Proofs.YtmcmjcaigipoaaaGreat
