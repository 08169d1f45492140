/- Numbers that ints hold. -/
import Derived.Test.YtfilhbkenedchabSingleGrows1
import Derived.ProofKit
import Derived.OpenShut
namespace Go.Proofs.Ytfilhbkenedchab
open Go.RowKit

/-- A number that an int holds. -/
def InI (x : Int) : Prop := -9223372036854775808 ≤ x ∧ x ≤ 9223372036854775807
theorem laidOut : laidOutB Try.prog = true := by kernel_rfl
theorem cellsInt : Try.prog.cellsOf 3 = 1 := by kernel_rfl
def WfE (e : E) : Prop := InI e.1 ∧ InI e.2
end Go.Proofs.Ytfilhbkenedchab
