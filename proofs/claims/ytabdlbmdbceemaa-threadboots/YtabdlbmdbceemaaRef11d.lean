/-
  septumref11: Valid, has and Leads. Conditions: none.
-/
import Derived.Test.YtabdlbmdbceemaaRef11
import Derived.Test.YtabdlbmdbceemaaGrow
import Derived.Deep.LoopGhost
namespace Go.Proofs.Ytabdlbmdbceemaa
open Go.RowKit Go.Sept

/-- What Valid answers. -/
def errW (n : Int) : Int := if n = 0 then 0 else 15
def validV (n : Int) : Value := .tuple #[.int .i64 n, .int .i64 (errW n)]

/-- A slice of ints that holds xs. -/
def IntsIs (w : World) (ao : Option Addr) (xs : List Int) : Prop := ∃ b off, ∀ i x, xs[i]? = some x → ao = some ⟨b, off, none⟩ ∧ w.cell? ⟨b, off + i, none⟩ = some (.int .i64 x)

end Go.Proofs.Ytabdlbmdbceemaa
