/-
  DimacsNumbers, walked.
-/
import Derived.Test.YthdogkafmhnffaaDoorShaped
set_option linter.unusedSimpArgs false
set_option linter.unusedVariables false
namespace Go.Proofs.YthdogkafmhnffaaDoor.dimacsNumbers
open Go Go.RowKit

theorem walk (w : World) :
    Calls Tryd.prog 3 #[] w fun e w' => e = .returned (.bool true) ∧ Below w.heap.size w w' := by
  go_enter Tryd.func3, Tryd.ntmps3
  go_wp2_with fail
  refine (readsOne_any w).mono ?_
  rintro e w1 ⟨rfl, bel1⟩
  have HB : Hid (Below w.heap.size w w1) := bel1
  clear bel1
  go_wp2
  go_ret
  exact ⟨rfl, HB.out⟩

end Go.Proofs.YthdogkafmhnffaaDoor.dimacsNumbers
