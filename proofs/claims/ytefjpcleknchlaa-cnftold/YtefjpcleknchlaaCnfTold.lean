/-
  CnfTold, walked.
-/
import Derived.Test.YtefjpcleknchlaaSmall
import Derived.Test.YtefjpcleknchlaaFalses
import Derived.Test.YtefjpcleknchlaaSames
import Derived.Deep.RegionWith
set_option linter.unusedSimpArgs false
set_option linter.unusedVariables false
namespace Go.Proofs.Ytefjpcleknchlaa.cnfTold
open Go.RowKit

theorem rdb_two (w : World) (x y : Bool) (t : TypeId) : RdB (w.alloc (.cells #[.bool x, .bool y] t)) (.slice (some ⟨w.heap.size, 0, none⟩) 2 2) [x, y] := by
  refine ⟨by simp, some ⟨w.heap.size, 0, none⟩, 2, rfl, fun _ => ⟨w.heap.size, 0, rfl, by simp, fun j hj => ?_⟩⟩
  match j, hj with
  | 0, _ => exact box0 _ _ _ _
  | 1, _ => exact box1 _ _ _ _
theorem sat_small : (mdl 2 smallF [false, true] && satT [false, true] smallF) = true := by decide

set_option maxHeartbeats 12800000 in
theorem walk (n : Int) (s : Value) (css : List (List Int)) (vm : Value) (ms : List Bool) (w : World) (wf : (Lit.int .i64 n).wf = true) (hr : Rds w s css) (hm : RdB w vm ms) :
    Calls Try.prog 5 #[.agg #[.int .i64 n, s], vm] w fun e w' => e = .returned (.bool true) ∧ Below w.heap.size w w' := by
  have hl := hr.len
  have hf8 : (flsA n css ms).length * 8 ≤ 140737488351232 := by
    have := flsK_len ms css css.length
    unfold flsA; split
    · omega
    · simp
  have HX : Hid (Bx w n s css (w.alloc (.cells #[.int .i64 n, s] 24))) := Bx.new hr _
  have HM : Hid (RdB (w.alloc (.cells #[.int .i64 n, s] 24)) vm ms) := hm.below (below_box _ _)
  have HF8 : Hid ((flsA n css ms).length * 8 ≤ 140737488351232) := hf8
  clear hr wf hm hl hf8
  go_enter Try.func5, Try.ntmps5
  go_wp2_with fail
  generalize w.alloc (.cells #[.int .i64 n, s] 24) = W0 at *
  refine (small_any W0).mono ?_
  rintro e w1 ⟨s1, rfl, rs1, bel1⟩
  have HX1 : Hid (Bx w n s css w1) := HX.out.on bel1
  have HM1 : Hid (RdB w1 vm ms) := HM.out.below bel1
  have HS1 : Hid (Rds w1 s1 smallF) := rs1
  clear HX bel1 HM rs1
  go_wp2_with fail
  refine (cnfSatisfies_any 2 s1 _ smallF [false, true] _ (HS1.out.below (below_box _ _)) (rdb_two w1 false true _)).mono ?_
  rw [sat_small]
  rintro e w2 ⟨rfl, bel2⟩
  have HX2 : Hid (Bx w n s css w2) := (HX1.out.on (below_box _ _)).on bel2
  have HM2 : Hid (RdB w2 vm ms) := (HM1.out.below (below_box _ _)).below bel2
  have c0 := HX2.out.c0
  have c1 := HX2.out.c1
  clear HX1 bel2 HS1 HM1
  go_wp2_with fail
  refine (cnfFalse_any n s vm css ms w2 HX2.out.rd HM2.out).mono ?_
  rintro e w3 ⟨v3, rfl, own3, bel3⟩
  have HX3 : Hid (Bx w n s css w3) := HX2.out.on bel3
  have HM3 : Hid (RdB w3 vm ms) := HM2.out.below bel3
  have HV3 : Hid (Rd w3 v3 (flsA n css ms)) := own3.rd HF8.out
  have c0 := HX3.out.c0
  have c1 := HX3.out.c1
  clear HX2 bel3 own3 HM2
  go_wp2_with fail
  go_region_with (first | (go_at_call 15; refine (cnfSatisfies_any n s vm css ms _ (by first | exact (HX3.out.on (below_drewN _ _)).rd | exact HX3.out.rd | exact (HX3.out.on (Below.refl _ _).drew).rd) (by first | exact (HM3.out.below (below_drewN _ _)) | exact HM3.out | exact (HM3.out.below (Below.refl _ _).drew))).mono ?_; rintro e w4 ⟨rfl, bel4⟩; have HX4 : Hid (Bx w n s css w4) := (by first | exact (HX3.out.on (below_drewN _ _)).on bel4 | exact HX3.out.on bel4 | exact (HX3.out.on (Below.refl _ _).drew).on bel4); have HM4 : Hid (RdB w4 vm ms) := (by first | exact (HM3.out.below (below_drewN _ _)).below bel4 | exact HM3.out.below bel4 | exact (HM3.out.below (Below.refl _ _).drew).below bel4); have HV4 : Hid (Rd w4 v3 (flsA n css ms)) := (by first | exact (HV3.out.below (below_drewN _ _)).below bel4 | exact HV3.out.below bel4 | exact (HV3.out.below (Below.refl _ _).drew).below bel4); have c04 := HX4.out.c0; have c14 := HX4.out.c1) | (go_at_call 17; refine (rSatisfies_any n s vm css ms _ (by first | exact (HX4.out.on (below_drewN _ _)).rd | exact HX4.out.rd | exact (HX4.out.on (Below.refl _ _).drew).rd) (by first | exact (HM4.out.below (below_drewN _ _)) | exact HM4.out | exact (HM4.out.below (Below.refl _ _).drew))).mono ?_; rintro e w5 ⟨rfl, bel5⟩; have HX5 : Hid (Bx w n s css w5) := (by first | exact (HX4.out.on (below_drewN _ _)).on bel5 | exact HX4.out.on bel5 | exact (HX4.out.on (Below.refl _ _).drew).on bel5); have HM5 : Hid (RdB w5 vm ms) := (by first | exact (HM4.out.below (below_drewN _ _)).below bel5 | exact HM4.out.below bel5 | exact (HM4.out.below (Below.refl _ _).drew).below bel5); have HV5 : Hid (Rd w5 v3 (flsA n css ms)) := (by first | exact (HV4.out.below (below_drewN _ _)).below bel5 | exact HV4.out.below bel5 | exact (HV4.out.below (Below.refl _ _).drew).below bel5); have c05 := HX5.out.c0; have c15 := HX5.out.c1) | (go_at_call 19; refine (rFalse_any n s vm css ms _ (by first | exact (HX5.out.on (below_drewN _ _)).rd | exact HX5.out.rd | exact (HX5.out.on (Below.refl _ _).drew).rd) (by first | exact (HM5.out.below (below_drewN _ _)) | exact HM5.out | exact (HM5.out.below (Below.refl _ _).drew))).mono ?_; rintro e w6 ⟨v6, rfl, own6, bel6⟩; have HX6 : Hid (Bx w n s css w6) := (by first | exact (HX5.out.on (below_drewN _ _)).on bel6 | exact HX5.out.on bel6 | exact (HX5.out.on (Below.refl _ _).drew).on bel6); have HM6 : Hid (RdB w6 vm ms) := (by first | exact (HM5.out.below (below_drewN _ _)).below bel6 | exact HM5.out.below bel6 | exact (HM5.out.below (Below.refl _ _).drew).below bel6); have HV6 : Hid (Rd w6 v3 (flsA n css ms)) := (by first | exact (HV5.out.below (below_drewN _ _)).below bel6 | exact HV5.out.below bel6 | exact (HV5.out.below (Below.refl _ _).drew).below bel6); have HW6 : Hid (Rd w6 v6 (flsA n css ms)) := own6.rd HF8.out; have c06 := HX6.out.c0; have c16 := HX6.out.c1) | (go_at_call 18; refine (sameSelf_any v3 v6 (flsA n css ms) _ (by first | exact (HV6.out.below (below_drewN _ _)) | exact HV6.out | exact (HV6.out.below (Below.refl _ _).drew)) (by first | exact (HW6.out.below (below_drewN _ _)) | exact HW6.out | exact (HW6.out.below (Below.refl _ _).drew))).mono ?_; rintro e w7 ⟨rfl, bel7⟩; have HX7 : Hid (Bx w n s css w7) := (by first | exact (HX6.out.on (below_drewN _ _)).on bel7 | exact HX6.out.on bel7 | exact (HX6.out.on (Below.refl _ _).drew).on bel7); have HM7 : Hid (RdB w7 vm ms) := (by first | exact (HM6.out.below (below_drewN _ _)).below bel7 | exact HM6.out.below bel7 | exact (HM6.out.below (Below.refl _ _).drew).below bel7); have HV7 : Hid (Rd w7 v3 (flsA n css ms)) := (by first | exact (HV6.out.below (below_drewN _ _)).below bel7 | exact HV6.out.below bel7 | exact (HV6.out.below (Below.refl _ _).drew).below bel7); have c07 := HX7.out.c0; have c17 := HX7.out.c1))
  all_goals
    go_wp2
    go_ret
    exact ⟨rfl, by first | exact HX7.out.bel | exact (HX7.out.on (below_drewN _ _)).bel | exact (HX7.out.on (Below.refl _ _).drew).bel⟩

end Go.Proofs.Ytefjpcleknchlaa.cnfTold
