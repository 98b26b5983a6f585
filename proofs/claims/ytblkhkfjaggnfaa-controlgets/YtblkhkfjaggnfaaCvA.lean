/-
  control: the program's questions of a text, walked: trimmed, small, alike, folded, isFair, isName, strings.Split at a line feed, isValue, strings.Cut at a byte, strings.Clone.
  KEEP: len below nil form rd mono on app start at new trans refl kept own row out grown rdz set one more lt size cell some none letL tail next step go add put del get look no yes e c f b k n m box Ltr
-/
import Derived.Test.YtblkhkfjaggnfaaCvQ
import Derived.Test.YtblkhkfjaggnfaaShelfR
import Derived.Test.YtblkhkfjaggnfaaByT
import Derived.Deep.CutRange
import Derived.Deep.RegionHeld
set_option linter.unusedSimpArgs false
set_option linter.unusedVariables false
namespace Go.Proofs.Ytblkhkfjaggnfaa
open Go Go.RowKit

theorem clone21 (s : ByteArray) (w : World) (hs : s.size ≤ 281474976710656) :
    Calls Try.prog 8 #[.string s] w fun e w' => e = .returned (.string s) ∧ Below w.heap.size w w' := by
  have HC : Hid (Calls Try.prog 11 #[.string s] w fun e w' => e = .returned (.string s) ∧ Below w.heap.size w w') := Try.stringslite_Clone s w hs
  go_enter Try.func8, Try.ntmps8
  go_wp2_with fail
  refine HC.out.mono ?_
  rintro e w1 ⟨rfl, bel⟩
  have HB : Hid (Below w.heap.size w w1) := bel
  go_wp2
  go_ret
  exact ⟨rfl, HB.out⟩

set_option maxHeartbeats 1600000 in
theorem small21 (z : Int) (w : World) (h0 : 0 ≤ z) (h1 : z < 256) : Calls Try.prog 10 #[.int .u8 z] w fun e w' => e = .returned (.int .u8 (lowZ z)) ∧ w' = w := by
  by_cases c1 : 65 ≤ z
  · by_cases c2 : z ≤ 90
    · have e : lowZ z = z + 32 := by unfold lowZ; rw [if_pos ⟨c1, c2⟩]
      rw [e]
      clear e
      go_enter Try.func10, Try.ntmps10
      go_wp2
      go_ret
      refine ⟨?_, rfl⟩
      show Ending.returned (.int .u8 (z - 65 + 97)) = _
      congr 2; omega
    · have e : lowZ z = z := by unfold lowZ; rw [if_neg (fun h => c2 h.2)]
      rw [e]
      clear e
      go_enter Try.func10, Try.ntmps10
      go_wp2
      go_ret
      exact ⟨rfl, rfl⟩
  · have e : lowZ z = z := by unfold lowZ; rw [if_neg (fun h => c1 h.1)]
    rw [e]
    clear e
    go_enter Try.func10, Try.ntmps10
    go_wp2
    go_ret
    exact ⟨rfl, rfl⟩

end Go.Proofs.Ytblkhkfjaggnfaa
