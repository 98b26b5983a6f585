/-
  How long a formula's list of clauses can be, where its reading is of small bulk.
-/
import Derived.Test.YtmfcaoacklbkoaaDoorRows
import Derived.Test.YtmfcaoacklbkoaaDoorOpenF
import Derived.Lib.SmallJoins
set_option linter.unusedVariables false
set_option linter.unusedSimpArgs false
namespace Go.Proofs.YtmfcaoacklbkoaaDoor
open Go.RowKit Go.ChangeShapes Go.WideShapes Go.Deep

theorem bulk_pos {H : Type} (d : DataW H) : 1 ≤ Rows.uptoBulk d := by
  cases d <;> (try simp [Rows.uptoBulk])
  rename_i l
  cases l <;> simp [Rows.uptoBulk]
theorem bulk_len {H : Type} : ∀ l : List (DataW H), l.length ≤ Rows.uptoBulkAll l
  | [] => Nat.zero_le _
  | d :: r => by
    have := bulk_len r
    have := bulk_pos d
    simp only [Rows.uptoBulkAll, List.length_cons]; omega
theorem bulk_slice {H : Type} (d : DataW H) : Joins.sliceLen d ≤ Rows.uptoBulk d := by
  cases d <;> (try simp [Joins.sliceLen])
  rename_i es sp
  have := bulk_len es
  simp only [Rows.uptoBulk]; omega

end Go.Proofs.YtmfcaoacklbkoaaDoor
