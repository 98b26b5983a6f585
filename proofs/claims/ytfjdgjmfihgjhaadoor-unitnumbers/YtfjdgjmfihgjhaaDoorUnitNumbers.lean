/-
  UnitNumbers: the walk.
  KEEP: set on app at below new trans refl start ap kept rd rds mono lt add none own nil put len pos setF setV putL putR other neV same_any
-/
import Derived.Test.YtfjdgjmfihgjhaaDoorUnA
set_option linter.unusedSimpArgs false
set_option linter.unusedVariables false
namespace Go.Proofs.YtfjdgjmfihgjhaaDoor.unitNumbers
open Go Go.RowKit
theorem walk (W : World) (hD : Deb W) :
    Calls Tryd.prog 3 #[] W fun e w' => e = .returned (.bool true) ∧ Below W.heap.size W w' := by
  have HD : Hid (Deb W) := hD
  clear hD
  go_enter Tryd.func3, Tryd.ntmps3
  go_wp2_with fail
  refine (awake6_any W HD.out).mono ?_
  rintro e w1 ⟨rfl, bel1⟩
  have HB : Hid (Below W.heap.size W w1) := bel1
  clear bel1
  go_wp2
  go_ret
  exact ⟨rfl, HB.out⟩
end Go.Proofs.YtfjdgjmfihgjhaaDoor.unitNumbers
