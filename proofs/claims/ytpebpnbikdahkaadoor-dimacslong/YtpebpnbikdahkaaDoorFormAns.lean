/-
  A call that answers a formula and an error: its boxes, its return.
-/
import Derived.Test.YtpebpnbikdahkaaDoorGrow
import Derived.Laws.ResultCell
import Derived.Laws.OwnMore
set_option linter.unusedSimpArgs false
set_option linter.unusedVariables false
namespace Go.Proofs.YtpebpnbikdahkaaDoor
open Go.RowKit

theorem below_set {w W : World} {D : Nat} (h : Below w.heap.size w W) (hD : w.heap.size ≤ D) (o : Nat) (v : Value) : Below w.heap.size w (W.setCell ⟨D, o, none⟩ v) := h.setCell (p := ⟨D, o, none⟩) hD v

end Go.Proofs.YtpebpnbikdahkaaDoor
