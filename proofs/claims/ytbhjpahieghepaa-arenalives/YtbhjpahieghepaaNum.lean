/-
  The numbers of layer 1: Formed, Var, Index, At, of the program and of the document's answer, each by a plain function on integers.
-/
import Derived.Test.YtbhjpahieghepaaPlain
import Derived.Test.YtbhjpahieghepaaProg
import Derived.WalkKit
set_option linter.unusedSimpArgs false
set_option linter.unusedVariables false
namespace Go.Proofs.Ytbhjpahieghepaa
open Go.RowKit

theorem ret_bool {a b : Bool} (h : a = b) : Ending.returned (.bool a) = .returned (.bool b) := by rw [h]
theorem ret_int {k : IntKind} {a b : Int} (h : a = b) : Ending.returned (.int k a) = .returned (.int k b) := by rw [h]

theorem formed_any (l : Int) (w : World) :
    Calls Try.prog 40 #[.int .i64 l] w fun e w' => e = .returned (.bool (fmd l)) ∧ w' = w := by
  go_enter Try.func40, Try.ntmps40
  go_wp2
  all_goals (go_ret; exact ⟨ret_bool (by rw [Bool.eq_iff_iff]; simp [fmd]; try omega), rfl⟩)

theorem refFormed_any (l : Int) (w : World) :
    Calls Try.prog 41 #[.int .i64 l] w fun e w' => e = .returned (.bool (fmd l)) ∧ w' = w := by
  go_enter Try.func41, Try.ntmps41
  go_wp2
  all_goals (go_ret; exact ⟨ret_bool (by rw [Bool.eq_iff_iff]; simp [fmd]; try omega), rfl⟩)

end Go.Proofs.Ytbhjpahieghepaa
