/-
  The document's text, Write, WriteList of relations, walked.
  KEEP: off c0 c1 c2 c3 c4 s0 s1 s2 s3 s4 newS rds lt f t q x lisF head22 put22 cellAt22 OwnR OwnRs St22 LsAns blw Ap put_app step_append_apk len below nil form rd mono on app start at new trans refl kept own row out grown rdz set one more lt size cell some none letL tail next step go add put del get look no yes e c f b k n m box take each block shape os tape output setCell heap alloc addr last blk drew keep done
-/
import Derived.Test.YtmfcaoacklbkoaaDoorRlG
set_option linter.unusedSimpArgs false
set_option linter.unusedVariables false
namespace Go.Proofs.YtmfcaoacklbkoaaDoor
open Go Go.RowKit

theorem sgF_size (o : Int) : (sgF o).size ≤ 2 := by
  unfold sgF
  repeat' split
  all_goals decide
/-- a relation's text -/
def txtB (n : ByteArray) (o : Int) (v : ByteArray) : ByteArray := if o = 0 then n else ((((n ++ ⟨#[32, 40]⟩) ++ sgF o) ++ ⟨#[32]⟩) ++ v) ++ ⟨#[41]⟩
theorem cat22 (x y : ByteArray) (h : x.size + y.size ≤ 9223372036854775807) (w : World) : (Op.stringOp .add x y).run Tryd.prog w = .ok (.string (x ++ y)) w := run_string_add_sum w x y h
end Go.Proofs.YtmfcaoacklbkoaaDoor
