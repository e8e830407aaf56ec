/-
  septumlaw11.copied: a configuration of its own. Conditions: the configuration is of a size that is looked at.
-/
import Derived.Test.YtpmchlnnlanokaaWhole11
import Derived.Test.YtpmchlnnlanokaaLead11
import Derived.BigRegion
import Derived.Deep.RegionLaw
namespace Go.Proofs.Ytpmchlnnlanokaa
open Go.RowKit Go.Sept

abbrev tags11 : Tags := ⟨39, 43, 70, 46, 48, 54⟩
def Btw (lo hi : Nat) (k : Nat) (_ : TypeId) : Prop := lo ≤ k ∧ k < hi
theorem infoWin : (Try.prog.info? 48).map (fun i => (i.zero, i.size, i.bytes)) = some (some (.agg #[.int .i64 0, .int .i64 0]), 2, 16) := by kernel_rfl
theorem infoChn : (Try.prog.info? 54).map (fun i => (i.zero, i.size, i.bytes)) = some (some (.agg #[.int .i64 0, .int .i64 0, .int .i64 0, .int .i64 0]), 4, 32) := by kernel_rfl
theorem infoOb : (Try.prog.info? 70).map (fun i => (i.zero, i.size, i.bytes)) = some (some (.agg #[.int .i64 0, .int .i64 0, .bool false]), 3, 24) := by kernel_rfl
theorem infoCl : (Try.prog.info? 46).map (fun i => (i.zero, i.size, i.bytes)) = some (some (.agg #[.int .i64 0, .int .i64 0, .int .i64 0, .int .i64 0, .slice none 0 0, .int .i64 0]), 6, 64) := by kernel_rfl
theorem infoTh : (Try.prog.info? 43).map (fun i => (i.zero, i.size, i.bytes)) = some (some (.agg #[.int .i64 0, .int .u32 0, .bool false, .slice none 0 0]), 4, 40) := by kernel_rfl
theorem infoPt : (Try.prog.info? 39).map (fun i => (i.zero, i.size, i.bytes)) = some (some (.agg #[.slice none 0 0, .slice none 0 0]), 2, 48) := by kernel_rfl

end Go.Proofs.Ytpmchlnnlanokaa
