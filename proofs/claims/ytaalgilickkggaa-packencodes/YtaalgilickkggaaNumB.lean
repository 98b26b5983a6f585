/-
  The document's Var and At by plain functions on integers.
-/
import Derived.Test.YtaalgilickkggaaNum
set_option linter.unusedSimpArgs false
set_option linter.unusedVariables false
namespace Go.Proofs.Ytaalgilickkggaa
open Go.RowKit

theorem refVar_any (l : Int) (w : World) :
    Calls Try.prog 26 #[.int .i64 l] w fun e w' => e = .returned (.int .i64 (varOf l)) ∧ w' = w := by
  rcases fmd_cases l with ⟨hf, h0, h1, h2⟩ | ⟨hf, h0⟩
  · have hp : 0 ≤ l → varOf l = l := fun h => by simp [varOf, hf]; omega
    have hn : l < 0 → varOf l = -l := fun h => by simp [varOf, hf]; omega
    go_enter Try.func26, Try.ntmps26
    go_wp2_with (go_at_call 32; refine (refFormed_any _ _).mono ?_; rintro e w' ⟨rfl, rfl⟩)
    all_goals (go_ret; exact ⟨ret_int (by first | rw [hp (by omega)] | rw [hn (by omega)]), rfl⟩)
  · have hz : varOf l = 0 := by simp [varOf, hf]
    go_enter Try.func26, Try.ntmps26
    go_wp2_with (go_at_call 32; refine (refFormed_any _ _).mono ?_; rintro e w' ⟨rfl, rfl⟩)
    all_goals (go_ret; exact ⟨ret_int hz.symm, rfl⟩)

end Go.Proofs.Ytaalgilickkggaa
