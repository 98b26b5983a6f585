/-
  The numbers of layer 1: Formed, Var, Index, At, of the program and of the document's answer, each by a plain function on integers.
-/
import Derived.Test.YtilcokpaeapmeaaDoorJPlain
import Derived.Test.YtilcokpaeapmeaaDoorProg
import Derived.WalkKit
set_option linter.unusedSimpArgs false
set_option linter.unusedVariables false
namespace Go.Proofs.YtilcokpaeapmeaaDoor
open Go.RowKit

theorem ret_bool {a b : Bool} (h : a = b) : Ending.returned (.bool a) = .returned (.bool b) := by rw [h]
theorem ret_int {k : IntKind} {a b : Int} (h : a = b) : Ending.returned (.int k a) = .returned (.int k b) := by rw [h]

theorem formed_any (l : Int) (w : World) :
    Calls Tryd.prog 48 #[.int .i64 l] w fun e w' => e = .returned (.bool (fmd l)) ∧ w' = w := by
  go_enter Tryd.func48, Tryd.ntmps48
  go_wp2
  all_goals (go_ret; exact ⟨ret_bool (by rw [Bool.eq_iff_iff]; simp [fmd]; try omega), rfl⟩)

theorem refFormed_any (l : Int) (w : World) :
    Calls Tryd.prog 50 #[.int .i64 l] w fun e w' => e = .returned (.bool (fmd l)) ∧ w' = w := by
  go_enter Tryd.func50, Tryd.ntmps50
  go_wp2
  all_goals (go_ret; exact ⟨ret_bool (by rw [Bool.eq_iff_iff]; simp [fmd]; try omega), rfl⟩)

theorem index_any (l : Int) (w : World) :
    Calls Tryd.prog 68 #[.int .i64 l] w fun e w' => e = .returned (.int .i64 (idx l)) ∧ w' = w := by
  rcases fmd_cases l with ⟨h, h0, h1, h2⟩ | ⟨h, h0⟩
  all_goals
    go_enter Tryd.func68, Tryd.ntmps68
    go_wp2_with (go_at_call 48; refine (formed_any _ _).mono ?_; rintro e w' ⟨rfl, rfl⟩)
    all_goals (go_ret; exact ⟨ret_int (by simp [idx, h]; try omega), rfl⟩)

theorem at_any (i : Int) (w : World) :
    Calls Tryd.prog 76 #[.int .i64 i] w fun e w' => e = .returned (.int .i64 (litAt i)) ∧ w' = w := by
  by_cases hr : 0 ≤ i ∧ i < 2097152
  · obtain ⟨h0, h1⟩ := hr
    rcases Int.emod_two_eq i with h | h
    · have hz := litAt_even h0 h1 h
      have hb : (i % 2 == 1) = false := by simp [h]
      have H : Hid (litAt i = i / 2 + 1) := hz
      clear hz h
      go_enter Tryd.func76, Tryd.ntmps76
      go_wp2
      all_goals (go_ret; exact ⟨ret_int H.out.symm, rfl⟩)
    · have hz := litAt_odd h0 h1 h
      have hb : (i % 2 == 1) = true := by simp [h]
      have H : Hid (litAt i = -(i / 2 + 1)) := hz
      clear hz h
      go_enter Tryd.func76, Tryd.ntmps76
      go_wp2
      all_goals (go_ret; exact ⟨ret_int H.out.symm, rfl⟩)
  · have hz : litAt i = 0 := litAt_none (by omega)
    have H : Hid (litAt i = 0) := hz
    clear hz
    have hr' : i < 0 ∨ 2097152 ≤ i := by omega
    clear hr
    rcases hr' with hr | hr
    all_goals
      go_enter Tryd.func76, Tryd.ntmps76
      go_wp2
      all_goals (go_ret; exact ⟨ret_int H.out.symm, rfl⟩)

end Go.Proofs.YtilcokpaeapmeaaDoor
