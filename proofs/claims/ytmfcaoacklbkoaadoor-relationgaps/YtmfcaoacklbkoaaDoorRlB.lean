/-
  The document's Sign, Name, Formed of relations, walked.
  KEEP: off c0 c1 c2 c3 c4 s0 s1 s2 s3 s4 newS rds lt f t q x len below nil form rd mono on app start at new trans refl kept own row out grown rdz set one more lt size cell some none letL tail next step go add put del get look no yes e c f b k n m box
-/
import Derived.Test.YtmfcaoacklbkoaaDoorRlA
set_option linter.unusedSimpArgs false
set_option linter.unusedVariables false
namespace Go.Proofs.YtmfcaoacklbkoaaDoor
open Go Go.RowKit

theorem rn_step {s : ByteArray} {k : Nat} (h : k < s.size) : rnA k (s.data.toList.drop k) = ((pnZ (s[k]'h).toNat || (k != 0 && (((s[k]'h).toNat : Int) == 43 || ((s[k]'h).toNat : Int) == 45 || ((s[k]'h).toNat : Int) == 46))) && rnA (k + 1) (s.data.toList.drop (k + 1))) := by
  rw [drop20 h, rnA]
end Go.Proofs.YtmfcaoacklbkoaaDoor
