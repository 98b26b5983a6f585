/-
  The law ControlNumbers, walked.
  KEEP: walk below len form out each rd mono nil own row set on app start grown at new
-/
import Derived.Test.YtblkhkfjaggnfaaDoorKAwS
set_option linter.unusedSimpArgs false
set_option linter.unusedVariables false
namespace Go.Proofs.YtblkhkfjaggnfaaDoor.controlNumbers
open Go Go.RowKit

set_option maxHeartbeats 1600000 in
theorem walk (W : World) : Calls Tryd.prog 3 #[] W fun e w' => e = .returned (.bool true) ∧ Below W.heap.size W w' := by
  have HA : Hid (∀ w, Calls Tryd.prog 7 #[] w fun e w' => e = .returned (.bool true) ∧ Below w.heap.size w w') := awake21
  go_enter Tryd.func3, Tryd.ntmps3
  go_wp2_with (go_at_call 7; refine (HA.out _).mono ?_; rintro e w1 ⟨rfl, b1⟩; have HB : Hid (Below W.heap.size W w1) := b1; clear b1)
  go_ret
  exact ⟨rfl, HB.out⟩

end Go.Proofs.YtblkhkfjaggnfaaDoor.controlNumbers
