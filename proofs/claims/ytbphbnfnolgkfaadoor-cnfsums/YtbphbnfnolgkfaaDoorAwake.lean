/-
  What the laws of the second stage ask of the small formula first, walked.
-/
import Derived.Test.YtbphbnfnolgkfaaDoorSatT
import Derived.Test.YtbphbnfnolgkfaaDoorSmall
set_option linter.unusedSimpArgs false
set_option linter.unusedVariables false
namespace Go.Proofs.YtbphbnfnolgkfaaDoor
open Go.RowKit

theorem rdb_two (w : World) (x y : Bool) (t : TypeId) : RdB (w.alloc (.cells #[.bool x, .bool y] t)) (.slice (some ⟨w.heap.size, 0, none⟩) 2 2) [x, y] := by
  refine ⟨by simp, some ⟨w.heap.size, 0, none⟩, 2, rfl, fun _ => ⟨w.heap.size, 0, rfl, by simp, fun j hj => ?_⟩⟩
  match j, hj with
  | 0, _ => exact box0 _ _ _ _
  | 1, _ => exact box1 _ _ _ _
theorem small_ft : (mdl 2 smallF [false, true] && satT [false, true] smallF) = true := by decide
theorem small_tt : (mdl 2 smallF [true, true] && satT [true, true] smallF) = false := by decide
theorem small_ff : (mdl 2 smallF [false, false] && satT [false, false] smallF) = false := by decide
theorem small_frm : frm 2 smallF = true := by decide

set_option maxHeartbeats 3200000 in
theorem awake_any (w : World) :
    Calls Tryd.prog 20 #[] w fun e w' => e = .returned (.bool true) ∧ Below w.heap.size w w' := by
  go_enter Tryd.func20, Tryd.ntmps20
  go_wp2_with fail
  refine (small_any w).mono ?_
  rintro e w1 ⟨s1, rfl, rs1, bel1⟩
  obtain ⟨a1, k1, hs1, _⟩ := rs1.form
  subst hs1
  have HX1 : Hid (Bx w1 2 (.slice a1 smallF.length k1) smallF (w1.alloc (.cells #[.int .i64 2, .slice a1 smallF.length k1] 24))) := Bx.new rs1 _
  have HB1 : Hid (Below w.heap.size w w1) := bel1
  have c0 := HX1.out.c0
  have c1 := HX1.out.c1
  clear rs1 bel1
  go_wp2_with fail
  generalize w1.alloc (.cells #[.int .i64 2, .slice a1 smallF.length k1] 24) = W1 at *
  refine (cnfFormed_any 2 _ smallF W1 HX1.out.rd).mono ?_
  rw [small_frm]
  rintro e w2 ⟨rfl, bel2⟩
  have HX2 : Hid (Bx w1 2 (.slice a1 smallF.length k1) smallF w2) := HX1.out.on bel2
  have c0 := HX2.out.c0
  have c1 := HX2.out.c1
  clear HX1 bel2
  go_wp2_with fail
  refine (cnfSatisfies_any 2 _ _ smallF [false, true] _ (HX2.out.on (below_box _ _)).rd (rdb_two w2 false true _)).mono ?_
  rw [small_ft]
  rintro e w3 ⟨rfl, bel3⟩
  have HX3 : Hid (Bx w1 2 (.slice a1 smallF.length k1) smallF w3) := (HX2.out.on (below_box _ _)).on bel3
  have c0 := HX3.out.c0
  have c1 := HX3.out.c1
  clear HX2 bel3
  go_wp2_with fail
  refine (cnfSatisfies_any 2 _ _ smallF [true, true] _ (HX3.out.on (below_box _ _)).rd (rdb_two w3 true true _)).mono ?_
  rw [small_tt]
  rintro e w4 ⟨rfl, bel4⟩
  have HX4 : Hid (Bx w1 2 (.slice a1 smallF.length k1) smallF w4) := (HX3.out.on (below_box _ _)).on bel4
  have c0 := HX4.out.c0
  have c1 := HX4.out.c1
  clear HX3 bel4
  go_wp2_with fail
  refine (cnfSatisfies_any 2 _ _ smallF [false, false] _ (HX4.out.on (below_box _ _)).rd (rdb_two w4 false false _)).mono ?_
  rw [small_ff]
  rintro e w5 ⟨rfl, bel5⟩
  have HX5 : Hid (Bx w1 2 (.slice a1 smallF.length k1) smallF w5) := (HX4.out.on (below_box _ _)).on bel5
  have c0 := HX5.out.c0
  have c1 := HX5.out.c1
  clear HX4 bel5
  go_wp2
  go_ret
  exact ⟨rfl, HB1.out.trans (HX5.out.bel.mono HB1.out.size)⟩

end Go.Proofs.YtbphbnfnolgkfaaDoor
