/-
  The numbers of layer 1: Formed, Var, Index, At, of the program and of the document's answer, each by a plain function on integers.
-/
import Derived.Test.YtlkbbbbclmffjaaGreatDoorJPlain
import Derived.Test.YtlkbbbbclmffjaaGreatDoorProg
import Derived.WalkKit
set_option linter.unusedSimpArgs false
set_option linter.unusedVariables false
namespace Go.Proofs.YtlkbbbbclmffjaaGreatDoor
open Go.RowKit

theorem ret_bool {a b : Bool} (h : a = b) : Ending.returned (.bool a) = .returned (.bool b) := by rw [h]
theorem ret_int {k : IntKind} {a b : Int} (h : a = b) : Ending.returned (.int k a) = .returned (.int k b) := by rw [h]

theorem formed_any (l : Int) (w : World) :
    Calls Tryz.prog 53 #[.int .i64 l] w fun e w' => e = .returned (.bool (fmd l)) ∧ w' = w := by
  go_enter Tryz.func53, Tryz.ntmps53
  go_wp2
  all_goals (go_ret; exact ⟨ret_bool (by rw [Bool.eq_iff_iff]; simp [fmd]; try omega), rfl⟩)

theorem refFormed_any (l : Int) (w : World) :
    Calls Tryz.prog 73 #[.int .i64 l] w fun e w' => e = .returned (.bool (fmd l)) ∧ w' = w := by
  go_enter Tryz.func73, Tryz.ntmps73
  go_wp2
  all_goals (go_ret; exact ⟨ret_bool (by rw [Bool.eq_iff_iff]; simp [fmd]; try omega), rfl⟩)

theorem var_any (l : Int) (w : World) :
    Calls Tryz.prog 54 #[.int .i64 l] w fun e w' => e = .returned (.int .i64 (varOf l)) ∧ w' = w := by
  rcases fmd_cases l with ⟨hf, h0, h1, h2⟩ | ⟨hf, h0⟩
  · have hp : 0 ≤ l → varOf l = l := fun h => by simp [varOf, hf]; omega
    have hn : l < 0 → varOf l = -l := fun h => by simp [varOf, hf]; omega
    go_enter Tryz.func54, Tryz.ntmps54
    go_wp2_with (go_at_call 53; refine (formed_any _ _).mono ?_; rintro e w' ⟨rfl, rfl⟩)
    all_goals (go_ret; exact ⟨ret_int (by first | rw [hp (by omega)] | rw [hn (by omega)]), rfl⟩)
  · have hz : varOf l = 0 := by simp [varOf, hf]
    go_enter Tryz.func54, Tryz.ntmps54
    go_wp2_with (go_at_call 53; refine (formed_any _ _).mono ?_; rintro e w' ⟨rfl, rfl⟩)
    all_goals (go_ret; exact ⟨ret_int hz.symm, rfl⟩)

end Go.Proofs.YtlkbbbbclmffjaaGreatDoor
