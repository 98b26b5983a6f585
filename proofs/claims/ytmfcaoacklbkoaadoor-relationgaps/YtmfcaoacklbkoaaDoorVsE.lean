/-
  The document's parted, walked (walks/genvse.py writes it).
  KEEP: set below kept
-/
import Derived.Test.YtmfcaoacklbkoaaDoorVsD
import Derived.Laws.ResultCell
set_option linter.unusedSimpArgs false
set_option linter.unusedVariables false
namespace Go.Proofs.YtmfcaoacklbkoaaDoor
open Go Go.RowKit

section
variable {W : World} {D : Nat} {a b c : ByteArray} {x y : Bool}
theorem belowQ {B : Nat} {w : World} (hb : Below B w W) (hD : B ≤ D) (k : Nat) (x : Value) : Below B w (W.setCell ⟨D, k, none⟩ x) := hb.setCell hD _
end
/-- the parts of a text, whether it is a version or not -/
def ptV (s : ByteArray) : Value := .agg #[.string (epS s), .string (upS (taS s)), .string (reS (taS s)), .bool (decide (0 ≤ iC s)), .bool (decide (0 ≤ iM (taS s)))]

end Go.Proofs.YtmfcaoacklbkoaaDoor
