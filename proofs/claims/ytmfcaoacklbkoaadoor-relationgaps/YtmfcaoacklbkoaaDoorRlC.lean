/-
  The document's Formed of relations, walked.
  KEEP: off c0 c1 c2 c3 c4 s0 s1 s2 s3 s4 newS rds lt f t q x len below nil form rd mono on app start at new trans refl kept own row out grown rdz set one more lt size cell some none letL tail next step go add put del get look no yes e c f b k n m box
-/
import Derived.Test.YtmfcaoacklbkoaaDoorRlQ
import Derived.Test.YtmfcaoacklbkoaaDoorVsF
set_option linter.unusedSimpArgs false
set_option linter.unusedVariables false
namespace Go.Proofs.YtmfcaoacklbkoaaDoor
open Go Go.RowKit

end Go.Proofs.YtmfcaoacklbkoaaDoor
