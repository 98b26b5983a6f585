/-
  CnfShape, walked.
-/
import Derived.Test.YtefjpcleknchlaaSmall
import Derived.Deep.RegionWith
set_option linter.unusedSimpArgs false
set_option linter.unusedVariables false
namespace Go.Proofs.Ytefjpcleknchlaa.cnfShape
open Go.RowKit

theorem frm_small : frm 2 smallF = true := by decide
theorem szs_small : szs smallF = 3 := by simp [szs, smallF, wrap64]

set_option maxHeartbeats 6400000 in
theorem walk (n : Int) (s : Value) (css : List (List Int)) (w : World) (wf : (Lit.int .i64 n).wf = true) (hr : Rds w s css) :
    Calls Try.prog 3 #[.agg #[.int .i64 n, s]] w fun e w' => e = .returned (.bool true) ∧ Below w.heap.size w w' := by
  have HX : Hid (Bx w n s css (w.alloc (.cells #[.int .i64 n, s] 24))) := Bx.new hr _
  clear hr wf
  go_enter Try.func3, Try.ntmps3
  go_wp2_with fail
  generalize w.alloc (.cells #[.int .i64 n, s] 24) = W0 at *
  refine (small_any W0).mono ?_
  rintro e w1 ⟨s1, rfl, rs1, bel1⟩
  have HX1 : Hid (Bx w n s css w1) := HX.out.on bel1
  clear HX bel1
  go_wp2_with fail
  refine (cnfFormed_any 2 s1 smallF w1 rs1).mono ?_
  rw [frm_small]
  rintro e w2 ⟨rfl, bel2⟩
  have HX2 : Hid (Bx w n s css w2) := HX1.out.on bel2
  clear HX1 bel2 rs1
  go_wp2_with fail
  refine (small_any w2).mono ?_
  rintro e w3 ⟨s3, rfl, rs3, bel3⟩
  have HX3 : Hid (Bx w n s css w3) := HX2.out.on bel3
  clear HX2 bel3
  go_wp2_with fail
  refine (cnfSize_any 2 s3 smallF w3 rs3).mono ?_
  rw [szs_small]
  rintro e w4 ⟨rfl, bel4⟩
  have HX4 : Hid (Bx w n s css w4) := HX3.out.on bel4
  clear HX3 bel4 rs3
  have c0 := HX4.out.c0
  have c1 := HX4.out.c1
  go_wp2_with fail
  go_region_with (first | (go_at_call 7; refine (cnfFormed_any n s css _ (by first | exact (HX4.out.on (below_drewN _ _)).rd | exact HX4.out.rd | exact (HX4.out.on (Below.refl _ _).drew).rd)).mono ?_; rintro e w5 ⟨rfl, bel5⟩; have HX5 : Hid (Bx w n s css w5) := (by first | exact (HX4.out.on (below_drewN _ _)).on bel5 | exact HX4.out.on bel5 | exact (HX4.out.on (Below.refl _ _).drew).on bel5); have c05 := HX5.out.c0; have c15 := HX5.out.c1) | (go_at_call 10; refine (rFormed_any n s css _ (by first | exact (HX5.out.on (below_drewN _ _)).rd | exact HX5.out.rd | exact (HX5.out.on (Below.refl _ _).drew).rd)).mono ?_; rintro e w6 ⟨rfl, bel6⟩; have HX6 : Hid (Bx w n s css w6) := (by first | exact (HX5.out.on (below_drewN _ _)).on bel6 | exact HX5.out.on bel6 | exact (HX5.out.on (Below.refl _ _).drew).on bel6); have c06 := HX6.out.c0; have c16 := HX6.out.c1) | (go_at_call 9; refine (cnfSize_any n s css _ (by first | exact (HX6.out.on (below_drewN _ _)).rd | exact HX6.out.rd | exact (HX6.out.on (Below.refl _ _).drew).rd)).mono ?_; rintro e w7 ⟨rfl, bel7⟩; have HX7 : Hid (Bx w n s css w7) := (by first | exact (HX6.out.on (below_drewN _ _)).on bel7 | exact HX6.out.on bel7 | exact (HX6.out.on (Below.refl _ _).drew).on bel7); have c07 := HX7.out.c0; have c17 := HX7.out.c1) | (go_at_call 11; refine (rSize_any n s css _ (by first | exact (HX7.out.on (below_drewN _ _)).rd | exact HX7.out.rd | exact (HX7.out.on (Below.refl _ _).drew).rd)).mono ?_; rintro e w8 ⟨rfl, bel8⟩; have HX8 : Hid (Bx w n s css w8) := (by first | exact (HX7.out.on (below_drewN _ _)).on bel8 | exact HX7.out.on bel8 | exact (HX7.out.on (Below.refl _ _).drew).on bel8); have c08 := HX8.out.c0; have c18 := HX8.out.c1))
  all_goals
    go_wp2
    go_ret
    exact ⟨rfl, by first | exact HX8.out.bel | exact (HX8.out.on (below_drewN _ _)).bel | exact (HX8.out.on (Below.refl _ _).drew).bel⟩

end Go.Proofs.Ytefjpcleknchlaa.cnfShape
