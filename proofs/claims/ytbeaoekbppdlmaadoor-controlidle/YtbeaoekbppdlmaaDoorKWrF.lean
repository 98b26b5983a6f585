/-
  Write's answer, part by part.
  KEEP: below len form out
-/
import Derived.Test.YtbeaoekbppdlmaaDoorKCtW
set_option linter.unusedSimpArgs false
set_option linter.unusedVariables false
namespace Go.Proofs.YtbeaoekbppdlmaaDoor
open Go Go.RowKit
def wrS21 (l : List Stz) : List UInt8 := if fmdL l then wrtF l else []
def wrE21 (l : List Stz) : Int := if fmdL l then 0 else 1
theorem wrAns_form21 (l : List Stz) : wrAns l = .tuple #[.string ⟨(wrS21 l).toArray⟩, .int .i64 (wrE21 l)] := by
  unfold wrAns wrS21 wrE21
  cases fmdL l <;> rfl
end Go.Proofs.YtbeaoekbppdlmaaDoor
