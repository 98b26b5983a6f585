/-
  The document's Pace, walked.
  KEEP: putObj alloc same block size os tape output mono lt own new keep conf rest clr below grown
-/
import Derived.Test.YthmejmnbbbiemaaPcM
import Derived.Lib.SmallJoins
set_option linter.unusedSimpArgs false
set_option linter.unusedVariables false
namespace Go.Proofs.Ythmejmnbbbiemaa
open Go Go.RowKit

end Go.Proofs.Ythmejmnbbbiemaa
