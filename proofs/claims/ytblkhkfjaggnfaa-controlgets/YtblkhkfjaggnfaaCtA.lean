/-
  The document's blank, more, Trim, Letters, Fair, Name, Alike, colon, walked.
  KEEP: len below nil form rd mono on app start at new trans refl kept own row out grown rdz set one more lt size cell some none letL tail next step go add put del get look no yes e c f b k n m box
-/
import Derived.Test.YtblkhkfjaggnfaaCtP
import Derived.Test.YtblkhkfjaggnfaaNum
import Derived.Deep.LoopGhost
import Derived.BigQuiet
import Derived.BigCall
import Derived.BigGuard
import Derived.Lib.Hide
import Derived.Handy
import Derived.WalkKit
import Derived.Deep.QuietTactic
import Derived.Deep.CutRange
set_option linter.unusedSimpArgs false
set_option linter.unusedVariables false
namespace Go.Proofs.Ytblkhkfjaggnfaa
open Go Go.RowKit

end Go.Proofs.Ytblkhkfjaggnfaa
