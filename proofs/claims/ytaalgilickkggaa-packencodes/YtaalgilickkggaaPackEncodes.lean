/-
  PackEncodes, walked.
  KEEP: len below nil form rd mono rdz on app start at new trans refl kept own row ap out step
-/
import Derived.Test.YtaalgilickkggaaPkG
import Derived.Test.YtaalgilickkggaaDrC
import Derived.Test.YtaalgilickkggaaOpenZ
set_option linter.unusedSimpArgs false
set_option linter.unusedVariables false
namespace Go.Proofs.Ytaalgilickkggaa
theorem ez10 {l : List Stp} (h : stpN l ≤ 1048576) : ez l ≤ 1099511627776 := by unfold stpN at h; unfold ez; omega
namespace packEncodes
open Go Go.RowKit

set_option maxHeartbeats 3200000 in
set_option maxRecDepth 100000 in
theorem walk (s : Value) (l : List Stp) (w : World) (hr : RdZ w s l) (hb : stpN l ≤ 1048576) :
    Calls Try.prog 5 #[s] w fun e w' => e = .returned (.bool true) ∧ RowKit.Below w.heap.size w w' := by
  have hl := hr.len
  have HR : Hid (RdZ w s l) := hr
  have H8 : Hid (∀ x ∈ l, x.2.length * 8 ≤ 140737488351232) := rdz_each hr
  have HEz : Hid (ez l ≤ 1099511627776) := ez10 hb
  have hX : (if sndS l = true then encB l else []).length ≤ 1099511627776 := by
    split
    · rename_i h; exact Nat.le_trans (encB_le l h) HEz.out
    · simp
  obtain ⟨a, c, rfl, hc, hm, _⟩ := hr.form
  have HE1 := fun W u h => encode_any u l W h HEz.out
  have HE2 := fun W u h => rEncode_any u l W h HEz.out
  generalize (if sndS l = true then encB l else []) = X at *
  generalize (if sndS l = true then (0 : Int) else 1) = E at *
  have HE1 : Hid (∀ W u, RdZ W u l → Calls Try.prog 9 #[u] W fun e w' => ∃ v, e = .returned (.tuple #[v, .int .i64 E]) ∧ OwnT W.heap.size w' v X ∧ RowKit.Below W.heap.size W w') := HE1
  have HE2 : Hid (∀ W u, RdZ W u l → Calls Try.prog 17 #[u] W fun e w' => ∃ v, e = .returned (.tuple #[v, .int .i64 E]) ∧ OwnT W.heap.size w' v X ∧ RowKit.Below W.heap.size W w') := HE2
  clear hr hb
  go_enter Try.func5, Try.ntmps5
  go_wp2_with fail
  refine (copySteps_any _ l _ HR.out).mono ?_
  rintro e w1 ⟨u1, rfl, own1, bel1⟩
  have R1 : Hid (RdZ w1 u1 l) := own1.rdz hl H8.out
  have R0 : Hid (RdZ w1 (.slice a l.length c) l) := HR.out.below bel1
  obtain ⟨ua, uc, rfl⟩ := own1.form
  clear own1
  go_wp2_with fail
  refine (HE1.out w1 _ R1.out).mono ?_
  rintro e w2 ⟨v2, rfl, own2, bel2⟩
  have RB : Hid (RdY w2 v2 X) := own2.rd (by omega)
  have R2 : Hid (RdZ w2 (.slice a l.length c) l) := R0.out.below bel2
  obtain ⟨va, vc, rfl⟩ := own2.form
  clear own2
  go_wp2_with fail
  refine (HE2.out w2 _ R2.out).mono ?_
  rintro e w3 ⟨v3, rfl, own3, bel3⟩
  have RC : Hid (RdY w3 v3 X) := own3.rd (by omega)
  have RB3 : Hid (RdY w3 (.slice va _ vc) X) := RB.out.below bel3
  obtain ⟨xa, xc, rfl⟩ := own3.form
  clear own3
  have hE : (E == E) = true := beq_self_eq_true _
  have HS : Hid (Calls Try.prog 14 #[.slice va X.length vc, .slice xa X.length xc] w3 fun e w' => e = .returned (.bool true) ∧ RowKit.Below w3.heap.size w3 w') := by
    have := sameY_any _ _ _ _ w3 RB3.out RC.out
    rwa [show (X == X) = true from beq_self_eq_true _] at this
  go_wp2_with (go_at_call 14; refine HS.out.mono ?_; rintro e w7 ⟨rfl, bel7⟩)
  go_ret
  exact ⟨rfl, Below.step (Below.step (Below.step bel1 bel2) bel3) bel7⟩

end packEncodes
end Go.Proofs.Ytaalgilickkggaa
