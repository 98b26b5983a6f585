/-
  The document's lists, walked (walks/genrlf.py writes it).
  KEEP: off c0 c1 c2 c3 c4 s0 s1 s2 s3 s4 newS rds lt f t q x OwnR OwnRs St22 LsAns blw Ap put_app step_append_apk len below nil form rd mono on app start at new trans refl kept own row out grown rdz set one more lt size cell some none letL tail next step go add put del get look no yes e c f b k n m box take each block shape os tape output setCell heap alloc addr last blk drew keep done
-/
import Derived.Test.YtmfcaoacklbkoaaDoorRlD
import Derived.Test.YtmfcaoacklbkoaaDoorRlE
import Derived.Test.YtmfcaoacklbkoaaDoorVsF
set_option linter.unusedSimpArgs false
set_option linter.unusedVariables false
namespace Go.Proofs.YtmfcaoacklbkoaaDoor
open Go Go.RowKit

def LsAns (B : Nat) (w w' : World) (e : Ending) : Except (Int × Int) (List (List Rl)) → Prop
  | .error p => e = .returned (.tuple #[.slice none 0 0, .int .i64 p.1, .int .i64 p.2]) ∧ Below B w w'
  | .ok l => ∃ s L, e = .returned (.tuple #[s, .int .i64 0, .int .i64 0]) ∧ OwnRs B w' s L ∧ rgS L = l ∧ Below B w w'
end Go.Proofs.YtmfcaoacklbkoaaDoor
