/-
  The document's Var and At by plain functions on integers.
-/
import Derived.Test.YtijhabhbeambeaaDoorNum
set_option linter.unusedSimpArgs false
set_option linter.unusedVariables false
namespace Go.Proofs.YtijhabhbeambeaaDoor
open Go.RowKit

theorem refAt_any (i : Int) (w : World) :
    Calls Tryd.prog 32 #[.int .i64 i] w fun e w' => e = .returned (.int .i64 (litAt i)) ∧ w' = w := by
  by_cases hr : 0 ≤ i ∧ i < 2097152
  · obtain ⟨h0, h1⟩ := hr
    rcases Int.emod_two_eq i with h | h
    · have hz := litAt_even h0 h1 h
      have hb : (i % 2 == 0) = true := by simp [h]
      have H : Hid (litAt i = i / 2 + 1) := hz
      clear hz h
      go_enter Tryd.func32, Tryd.ntmps32
      go_wp2
      all_goals (go_ret; exact ⟨ret_int H.out.symm, rfl⟩)
    · have hz := litAt_odd h0 h1 h
      have hb : (i % 2 == 0) = false := by simp [h]
      have H : Hid (litAt i = -(i / 2 + 1)) := hz
      clear hz h
      go_enter Tryd.func32, Tryd.ntmps32
      go_wp2
      all_goals (go_ret; exact ⟨ret_int H.out.symm, rfl⟩)
  · have hz : litAt i = 0 := litAt_none (by omega)
    have H : Hid (litAt i = 0) := hz
    clear hz
    have hr' : i < 0 ∨ 2097152 ≤ i := by omega
    clear hr
    rcases hr' with hr | hr
    all_goals
      go_enter Tryd.func32, Tryd.ntmps32
      go_wp2
      all_goals (go_ret; exact ⟨ret_int H.out.symm, rfl⟩)

end Go.Proofs.YtijhabhbeambeaaDoor
