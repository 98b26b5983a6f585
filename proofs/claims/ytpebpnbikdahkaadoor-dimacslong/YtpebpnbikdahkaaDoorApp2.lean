/-
  append onto a row of ints of one's own: in its block, or in a new one.
  KEEP: set on app at below new trans refl start ap kept rd rds mono
-/
import Derived.Test.YtpebpnbikdahkaaDoorGrow
import Derived.ArgAppend
import Derived.OneCell
import Derived.Laws.OwnMore
import Derived.Handy
set_option linter.unusedSimpArgs false
set_option linter.unusedVariables false
namespace Go.Proofs.YtpebpnbikdahkaaDoor
open Go Go.RowKit

section
variable {P : Program} (w : World)
end

end Go.Proofs.YtpebpnbikdahkaaDoor
