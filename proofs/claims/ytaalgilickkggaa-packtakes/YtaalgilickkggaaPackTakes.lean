/-
  PackTakes, walked.
  KEEP: below rdz form out len rd mono nil step
-/
import Derived.Test.YtaalgilickkggaaPkR
set_option linter.unusedSimpArgs false
set_option linter.unusedVariables false
namespace Go.Proofs.Ytaalgilickkggaa
namespace packTakes
open Go Go.RowKit

set_option maxHeartbeats 3200000 in
set_option maxRecDepth 100000 in
theorem walk (n : Nat) (s : Value) (T : List UInt8) (w : World) (hn : n < 18446744073709551616) (hr : RdY w s T) (hb : T.length ≤ 140737488351232) :
    Calls Try.prog 4 #[.int .u64 n, s] w fun e w' => e = .returned (.bool true) ∧ RowKit.Below w.heap.size w w' := by
  have hl := hr.len
  have HR : Hid (RdY w s T) := hr
  obtain ⟨a, c, rfl, hc, hm, _⟩ := hr.form
  have h10 := numB_10 hn
  clear hr
  go_enter Try.func4, Try.ntmps4
  go_wp2_with fail
  refine (number_any n _ hn).mono ?_
  rintro e w1 ⟨g, rfl, hg, rx, bel1⟩
  have RX : Hid (RdY w1 (.slice (some ⟨g, 0, none⟩) (numB n).length 10) (numB n)) := rx
  have R1 : Hid (RdY w1 (.slice a T.length c) T) := HR.out.below bel1
  clear rx
  go_wp2_with fail
  refine (copiedY_any _ T _ R1.out).mono ?_
  rintro e w2 ⟨u2, rfl, own2, bel2⟩
  have RU2 : Hid (RdY w2 u2 T) := own2.rd hl
  have R2 : Hid (RdY w2 (.slice a T.length c) T) := R1.out.below bel2
  have RX2 : Hid (RdY w2 (.slice (some ⟨g, 0, none⟩) (numB n).length 10) (numB n)) := RX.out.below bel2
  obtain ⟨ua, uc, rfl⟩ := own2.form
  clear own2
  go_wp2_with fail
  refine (take_any _ T _ RU2.out).mono ?_
  rintro e w3 ⟨rfl, rfl⟩
  go_wp2_with fail
  refine (copiedY_any _ T _ R2.out).mono ?_
  rintro e w4 ⟨u4, rfl, own4, bel4⟩
  have RU4 : Hid (RdY w4 u4 T) := own4.rd hl
  have RX4 : Hid (RdY w4 (.slice (some ⟨g, 0, none⟩) (numB n).length 10) (numB n)) := RX2.out.below bel4
  obtain ⟨va, vc, rfl⟩ := own4.form
  clear own4
  go_wp2_with fail
  refine (rTake_any _ T _ RU4.out).mono ?_
  rintro e w5 ⟨rfl, rfl⟩
  go_wp2_with fail
  refine (rNumber_any n _ hn).mono ?_
  rintro e w6 ⟨u6, rfl, own6, bel6⟩
  have RN : Hid (RdY w6 u6 (numB n)) := own6.rd (by omega)
  have RX6 : Hid (RdY w6 (.slice (some ⟨g, 0, none⟩) (numB n).length 10) (numB n)) := RX4.out.below bel6
  obtain ⟨na, nc, rfl⟩ := own6.form
  clear own6
  have HS : Hid (Calls Try.prog 14 #[.slice (some ⟨g, 0, none⟩) (numB n).length 10, .slice na (numB n).length nc] w6 fun e w' => e = .returned (.bool true) ∧ RowKit.Below w6.heap.size w6 w') := by
    have := sameY_any _ _ _ _ w6 RX6.out RN.out
    rwa [show (numB n == numB n) = true from beq_self_eq_true _] at this
  have hb1 : (((tkB 0 0 T).1 : Int) == ((tkB 0 0 T).1 : Int)) = true := beq_self_eq_true _
  have hb2 : (((tkB 0 0 T).2.1 : Int) == ((tkB 0 0 T).2.1 : Int)) = true := beq_self_eq_true _
  have hb3 : ((tkB 0 0 T).2.2 == (tkB 0 0 T).2.2) = true := beq_self_eq_true _
  go_wp2_with (go_at_call 14; refine HS.out.mono ?_; rintro e w7 ⟨rfl, bel7⟩)
  go_ret
  exact ⟨rfl, Below.step (Below.step (Below.step (Below.step bel1 bel2) bel4) bel6) bel7⟩

end packTakes
end Go.Proofs.Ytaalgilickkggaa
