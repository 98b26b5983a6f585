/-
  The document's Make and Plan, walked.
  KEEP: putObj alloc same block size os tape output mono lt own new keep conf rest clr below grown
-/
import Derived.Test.YthmejmnbbbiemaaPcU
import Derived.Test.YthmejmnbbbiemaaPcV
import Derived.Deep.LoopGhost
set_option linter.unusedSimpArgs false
set_option linter.unusedVariables false
namespace Go.Proofs.Ythmejmnbbbiemaa
open Go Go.RowKit

attribute [local go_sem ↓] append_alias
theorem Ps.rw1 {x : Ps} {b : Int} {L : List (Int × Bool)} (h : (L.length : Int) = x.t1) : x.conf.w1 b = b * (lub (L.length + 1) : Int) := by
  show b * lubI (x.t1 + 1) = _
  rw [← h, show ((L.length : Int) + 1) = ((L.length + 1 : Nat) : Int) by omega, lubI_nat (by omega)]
end Go.Proofs.Ythmejmnbbbiemaa
