/-
  The numbers of layer 1: Formed, Var, Index, At, of the program and of the document's answer, each by a plain function on integers.
-/
import Derived.Test.YtmfcaoacklbkoaaDoorPlain
import Derived.Test.YtmfcaoacklbkoaaDoorProg
import Derived.WalkKit
set_option linter.unusedSimpArgs false
set_option linter.unusedVariables false
namespace Go.Proofs.YtmfcaoacklbkoaaDoor
open Go.RowKit

theorem ret_bool {a b : Bool} (h : a = b) : Ending.returned (.bool a) = .returned (.bool b) := by rw [h]
theorem ret_int {k : IntKind} {a b : Int} (h : a = b) : Ending.returned (.int k a) = .returned (.int k b) := by rw [h]

end Go.Proofs.YtmfcaoacklbkoaaDoor
