/-
  The document's first, last, parted, walked.
  KEEP: set below kept
-/
import Derived.Test.YtmfcaoacklbkoaaDoorVsR
import Derived.RangeFuncRecord
set_option linter.unusedSimpArgs false
set_option linter.unusedVariables false
namespace Go.Proofs.YtmfcaoacklbkoaaDoor
open Go Go.RowKit

theorem bang20 (s : ByteArray) (k : Nat) (h : k < s.size) : s.data[k]! = s[k]'h := by
  rw [getElem!_pos s.data k h]; rfl
end Go.Proofs.YtmfcaoacklbkoaaDoor
