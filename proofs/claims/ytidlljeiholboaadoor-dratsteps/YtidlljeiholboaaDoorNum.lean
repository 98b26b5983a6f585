/-
  The numbers of layer 1: Formed, Var, Index, At, of the program and of the document's answer, each by a plain function on integers.
-/
import Derived.Test.YtidlljeiholboaaDoorPlain
import Derived.Test.YtidlljeiholboaaDoorProg
import Derived.WalkKit
set_option linter.unusedSimpArgs false
set_option linter.unusedVariables false
namespace Go.Proofs.YtidlljeiholboaaDoor
open Go.RowKit

theorem ret_bool {a b : Bool} (h : a = b) : Ending.returned (.bool a) = .returned (.bool b) := by rw [h]
theorem ret_int {k : IntKind} {a b : Int} (h : a = b) : Ending.returned (.int k a) = .returned (.int k b) := by rw [h]

theorem formed_any (l : Int) (w : World) :
    Calls Tryd.prog 61 #[.int .i64 l] w fun e w' => e = .returned (.bool (fmd l)) ∧ w' = w := by
  go_enter Tryd.func61, Tryd.ntmps61
  go_wp2
  all_goals (go_ret; exact ⟨ret_bool (by rw [Bool.eq_iff_iff]; simp [fmd]; try omega), rfl⟩)

theorem refFormed_any (l : Int) (w : World) :
    Calls Tryd.prog 63 #[.int .i64 l] w fun e w' => e = .returned (.bool (fmd l)) ∧ w' = w := by
  go_enter Tryd.func63, Tryd.ntmps63
  go_wp2
  all_goals (go_ret; exact ⟨ret_bool (by rw [Bool.eq_iff_iff]; simp [fmd]; try omega), rfl⟩)

theorem index_any (l : Int) (w : World) :
    Calls Tryd.prog 77 #[.int .i64 l] w fun e w' => e = .returned (.int .i64 (idx l)) ∧ w' = w := by
  rcases fmd_cases l with ⟨h, h0, h1, h2⟩ | ⟨h, h0⟩
  all_goals
    go_enter Tryd.func77, Tryd.ntmps77
    go_wp2_with (go_at_call 61; refine (formed_any _ _).mono ?_; rintro e w' ⟨rfl, rfl⟩)
    all_goals (go_ret; exact ⟨ret_int (by simp [idx, h]; try omega), rfl⟩)

theorem at_any (i : Int) (w : World) :
    Calls Tryd.prog 85 #[.int .i64 i] w fun e w' => e = .returned (.int .i64 (litAt i)) ∧ w' = w := by
  by_cases hr : 0 ≤ i ∧ i < 2097152
  · obtain ⟨h0, h1⟩ := hr
    rcases Int.emod_two_eq i with h | h
    · have hz := litAt_even h0 h1 h
      have hb : (i % 2 == 1) = false := by simp [h]
      have H : Hid (litAt i = i / 2 + 1) := hz
      clear hz h
      go_enter Tryd.func85, Tryd.ntmps85
      go_wp2
      all_goals (go_ret; exact ⟨ret_int H.out.symm, rfl⟩)
    · have hz := litAt_odd h0 h1 h
      have hb : (i % 2 == 1) = true := by simp [h]
      have H : Hid (litAt i = -(i / 2 + 1)) := hz
      clear hz h
      go_enter Tryd.func85, Tryd.ntmps85
      go_wp2
      all_goals (go_ret; exact ⟨ret_int H.out.symm, rfl⟩)
  · have hz : litAt i = 0 := litAt_none (by omega)
    have H : Hid (litAt i = 0) := hz
    clear hz
    have hr' : i < 0 ∨ 2097152 ≤ i := by omega
    clear hr
    rcases hr' with hr | hr
    all_goals
      go_enter Tryd.func85, Tryd.ntmps85
      go_wp2
      all_goals (go_ret; exact ⟨ret_int H.out.symm, rfl⟩)

end Go.Proofs.YtidlljeiholboaaDoor
