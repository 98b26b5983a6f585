/-
  The numbers of layer 1: Formed, Var, Index, At, of the program and of the document's answer, each by a plain function on integers.
-/
import Derived.Test.YtfklgfdkpmfdnaaDoorPlain
import Derived.Test.YtfklgfdkpmfdnaaDoorProg
import Derived.WalkKit
set_option linter.unusedSimpArgs false
set_option linter.unusedVariables false
namespace Go.Proofs.YtfklgfdkpmfdnaaDoor
open Go.RowKit

theorem ret_bool {a b : Bool} (h : a = b) : Ending.returned (.bool a) = .returned (.bool b) := by rw [h]
theorem ret_int {k : IntKind} {a b : Int} (h : a = b) : Ending.returned (.int k a) = .returned (.int k b) := by rw [h]

theorem formed_any (l : Int) (w : World) :
    Calls Tryd.prog 48 #[.int .i64 l] w fun e w' => e = .returned (.bool (fmd l)) ∧ w' = w := by
  go_enter Tryd.func48, Tryd.ntmps48
  go_wp2
  all_goals (go_ret; exact ⟨ret_bool (by rw [Bool.eq_iff_iff]; simp [fmd]; try omega), rfl⟩)

theorem refFormed_any (l : Int) (w : World) :
    Calls Tryd.prog 53 #[.int .i64 l] w fun e w' => e = .returned (.bool (fmd l)) ∧ w' = w := by
  go_enter Tryd.func53, Tryd.ntmps53
  go_wp2
  all_goals (go_ret; exact ⟨ret_bool (by rw [Bool.eq_iff_iff]; simp [fmd]; try omega), rfl⟩)

theorem index_any (l : Int) (w : World) :
    Calls Tryd.prog 54 #[.int .i64 l] w fun e w' => e = .returned (.int .i64 (idx l)) ∧ w' = w := by
  rcases fmd_cases l with ⟨h, h0, h1, h2⟩ | ⟨h, h0⟩
  all_goals
    go_enter Tryd.func54, Tryd.ntmps54
    go_wp2_with (go_at_call 48; refine (formed_any _ _).mono ?_; rintro e w' ⟨rfl, rfl⟩)
    all_goals (go_ret; exact ⟨ret_int (by simp [idx, h]; try omega), rfl⟩)

theorem var_any (l : Int) (w : World) :
    Calls Tryd.prog 49 #[.int .i64 l] w fun e w' => e = .returned (.int .i64 (varOf l)) ∧ w' = w := by
  rcases fmd_cases l with ⟨hf, h0, h1, h2⟩ | ⟨hf, h0⟩
  · have hp : 0 ≤ l → varOf l = l := fun h => by simp [varOf, hf]; omega
    have hn : l < 0 → varOf l = -l := fun h => by simp [varOf, hf]; omega
    go_enter Tryd.func49, Tryd.ntmps49
    go_wp2_with (go_at_call 48; refine (formed_any _ _).mono ?_; rintro e w' ⟨rfl, rfl⟩)
    all_goals (go_ret; exact ⟨ret_int (by first | rw [hp (by omega)] | rw [hn (by omega)]), rfl⟩)
  · have hz : varOf l = 0 := by simp [varOf, hf]
    go_enter Tryd.func49, Tryd.ntmps49
    go_wp2_with (go_at_call 48; refine (formed_any _ _).mono ?_; rintro e w' ⟨rfl, rfl⟩)
    all_goals (go_ret; exact ⟨ret_int hz.symm, rfl⟩)

theorem at_any (i : Int) (w : World) :
    Calls Tryd.prog 57 #[.int .i64 i] w fun e w' => e = .returned (.int .i64 (litAt i)) ∧ w' = w := by
  by_cases hr : 0 ≤ i ∧ i < 2097152
  · obtain ⟨h0, h1⟩ := hr
    rcases Int.emod_two_eq i with h | h
    · have hz := litAt_even h0 h1 h
      have hb : (i % 2 == 1) = false := by simp [h]
      have H : Hid (litAt i = i / 2 + 1) := hz
      clear hz h
      go_enter Tryd.func57, Tryd.ntmps57
      go_wp2
      all_goals (go_ret; exact ⟨ret_int H.out.symm, rfl⟩)
    · have hz := litAt_odd h0 h1 h
      have hb : (i % 2 == 1) = true := by simp [h]
      have H : Hid (litAt i = -(i / 2 + 1)) := hz
      clear hz h
      go_enter Tryd.func57, Tryd.ntmps57
      go_wp2
      all_goals (go_ret; exact ⟨ret_int H.out.symm, rfl⟩)
  · have hz : litAt i = 0 := litAt_none (by omega)
    have H : Hid (litAt i = 0) := hz
    clear hz
    have hr' : i < 0 ∨ 2097152 ≤ i := by omega
    clear hr
    rcases hr' with hr | hr
    all_goals
      go_enter Tryd.func57, Tryd.ntmps57
      go_wp2
      all_goals (go_ret; exact ⟨ret_int H.out.symm, rfl⟩)

end Go.Proofs.YtfklgfdkpmfdnaaDoor
