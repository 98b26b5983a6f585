/-
  The document's Var and At by plain functions on integers.
-/
import Derived.Test.YthplkllphpnaoaaNum
set_option linter.unusedSimpArgs false
set_option linter.unusedVariables false
namespace Go.Proofs.Ythplkllphpnaoaa
open Go.RowKit

theorem refVar_any (l : Int) (w : World) :
    Calls Try.prog 14 #[.int .i64 l] w fun e w' => e = .returned (.int .i64 (varOf l)) ∧ w' = w := by
  rcases fmd_cases l with ⟨hf, h0, h1, h2⟩ | ⟨hf, h0⟩
  · have hp : 0 ≤ l → varOf l = l := fun h => by simp [varOf, hf]; omega
    have hn : l < 0 → varOf l = -l := fun h => by simp [varOf, hf]; omega
    go_enter Try.func14, Try.ntmps14
    go_wp2_with (go_at_call 13; refine (refFormed_any _ _).mono ?_; rintro e w' ⟨rfl, rfl⟩)
    all_goals (go_ret; exact ⟨ret_int (by first | rw [hp (by omega)] | rw [hn (by omega)]), rfl⟩)
  · have hz : varOf l = 0 := by simp [varOf, hf]
    go_enter Try.func14, Try.ntmps14
    go_wp2_with (go_at_call 13; refine (refFormed_any _ _).mono ?_; rintro e w' ⟨rfl, rfl⟩)
    all_goals (go_ret; exact ⟨ret_int hz.symm, rfl⟩)

theorem refAt_any (i : Int) (w : World) :
    Calls Try.prog 16 #[.int .i64 i] w fun e w' => e = .returned (.int .i64 (litAt i)) ∧ w' = w := by
  by_cases hr : 0 ≤ i ∧ i < 2097152
  · obtain ⟨h0, h1⟩ := hr
    rcases Int.emod_two_eq i with h | h
    · have hz := litAt_even h0 h1 h
      have hb : (i % 2 == 0) = true := by simp [h]
      have H : Hid (litAt i = i / 2 + 1) := hz
      clear hz h
      go_enter Try.func16, Try.ntmps16
      go_wp2
      all_goals (go_ret; exact ⟨ret_int H.out.symm, rfl⟩)
    · have hz := litAt_odd h0 h1 h
      have hb : (i % 2 == 0) = false := by simp [h]
      have H : Hid (litAt i = -(i / 2 + 1)) := hz
      clear hz h
      go_enter Try.func16, Try.ntmps16
      go_wp2
      all_goals (go_ret; exact ⟨ret_int H.out.symm, rfl⟩)
  · have hz : litAt i = 0 := litAt_none (by omega)
    have H : Hid (litAt i = 0) := hz
    clear hz
    have hr' : i < 0 ∨ 2097152 ≤ i := by omega
    clear hr
    rcases hr' with hr | hr
    all_goals
      go_enter Try.func16, Try.ntmps16
      go_wp2
      all_goals (go_ret; exact ⟨ret_int H.out.symm, rfl⟩)

end Go.Proofs.Ythplkllphpnaoaa
