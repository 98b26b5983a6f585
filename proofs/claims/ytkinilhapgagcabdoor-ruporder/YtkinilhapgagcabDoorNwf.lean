/-
  rup: a number's range, as it is read.
-/
import Derived.Test.YtkinilhapgagcabDoorNgw
set_option linter.unusedSimpArgs false
set_option linter.unusedVariables false
namespace Go.Proofs.YtkinilhapgagcabDoor
open Go Go.RowKit
theorem wf_i64 {n : Int} (h : (Lit.int .i64 n).wf = true) : i64 n := by
  unfold Lit.wf at h
  simp [IntKind.min, IntKind.max, IntKind.bits, IntKind.signed] at h
  unfold i64
  omega
end Go.Proofs.YtkinilhapgagcabDoor
