/-
  version: digit, letter, plain, inUpstream, and the document's digit, letter, walked.
-/
import Derived.Test.YtmfcaoacklbkoaaDoorVsP
import Derived.Test.YtmfcaoacklbkoaaDoorNum
import Derived.Test.YtmfcaoacklbkoaaDoorShelfR
import Derived.Deep.LoopGhost
import Derived.BigQuiet
import Derived.BigCall
import Derived.BigGuard
import Derived.Lib.Hide
import Derived.Lib.OthersKept
import Derived.Lib.Strings
import Derived.Laws.RangeAny
import Derived.Handy
import Derived.WalkKit
import Derived.Deep.QuietTactic
set_option linter.unusedSimpArgs false
set_option linter.unusedVariables false
namespace Go.Proofs.YtmfcaoacklbkoaaDoor
open Go Go.RowKit

set_option maxHeartbeats 800000 in
theorem digit20_any (r : Int) (w : World) : Calls Tryd.prog 59 #[.int .i32 r] w fun e w' => e = .returned (.bool (digR r)) ∧ w' = w := by
  have HP : Hid (digR r = (decide (48 ≤ r) && decide (r ≤ 57))) := rfl
  by_cases h1 : 48 ≤ r <;> by_cases h2 : r ≤ 57
  all_goals
    go_enter Tryd.func59, Tryd.ntmps59
    go_wp2
    go_ret
    exact ⟨ret_bool (by rw [HP.out]; simp [h1, h2]), rfl⟩
set_option maxHeartbeats 800000 in
theorem letter20_any (r : Int) (w : World) : Calls Tryd.prog 68 #[.int .i32 r] w fun e w' => e = .returned (.bool (letR r)) ∧ w' = w := by
  have HP : Hid (letR r = ((decide (97 ≤ r) && decide (r ≤ 122)) || (decide (65 ≤ r) && decide (r ≤ 90)))) := rfl
  by_cases h1 : 97 ≤ r <;> by_cases h2 : r ≤ 122 <;> by_cases h3 : 65 ≤ r <;> by_cases h4 : r ≤ 90
  all_goals
    first
    | (exfalso; omega)
    | (go_enter Tryd.func68, Tryd.ntmps68
       go_wp2
       go_ret
       exact ⟨ret_bool (by rw [HP.out]; simp [h1, h2, h3, h4]), rfl⟩)
set_option maxHeartbeats 1600000 in
theorem plain20_any (r : Int) (w : World) : Calls Tryd.prog 61 #[.int .i32 r] w fun e w' => e = .returned (.bool (plnR r)) ∧ w' = w := by
  have HP : Hid (plnR r = (letR r || digR r || r == 43 || r == 46 || r == 126)) := rfl
  have HL : Hid (Calls Tryd.prog 68 #[.int .i32 r] w fun e w' => e = .returned (.bool (letR r)) ∧ w' = w) := letter20_any r w
  have HD : Hid (Calls Tryd.prog 59 #[.int .i32 r] w fun e w' => e = .returned (.bool (digR r)) ∧ w' = w) := digit20_any r w
  generalize plnR r = pr at *
  generalize letR r = lr at *
  generalize digR r = dr at *
  cases lr <;> cases dr <;> cases h1 : (r == 43) <;> cases h2 : (r == 46) <;> cases h3 : (r == 126)
  all_goals
    go_enter Tryd.func61, Tryd.ntmps61
    go_wp2_with (first | (go_at_call 68; refine HL.out.mono ?_; rintro e w1 ⟨rfl, rfl⟩) | (go_at_call 59; refine HD.out.mono ?_; rintro e w1 ⟨rfl, rfl⟩))
    go_ret
    exact ⟨ret_bool (by rw [HP.out, h1, h2, h3]; rfl), rfl⟩
set_option maxHeartbeats 1600000 in
theorem ups20_any (r : Int) (w : World) : Calls Tryd.prog 63 #[.int .i32 r] w fun e w' => e = .returned (.bool (upsR r)) ∧ w' = w := by
  have HP : Hid (upsR r = (plnR r || r == 45 || r == 58)) := rfl
  have HL : Hid (Calls Tryd.prog 61 #[.int .i32 r] w fun e w' => e = .returned (.bool (plnR r)) ∧ w' = w) := plain20_any r w
  generalize upsR r = ur at *
  generalize plnR r = lr at *
  cases lr <;> cases h1 : (r == 45) <;> cases h2 : (r == 58)
  all_goals
    go_enter Tryd.func63, Tryd.ntmps63
    go_wp2_with (go_at_call 61; refine HL.out.mono ?_; rintro e w1 ⟨rfl, rfl⟩)
    go_ret
    exact ⟨ret_bool (by rw [HP.out, h1, h2]; rfl), rfl⟩

end Go.Proofs.YtmfcaoacklbkoaaDoor
