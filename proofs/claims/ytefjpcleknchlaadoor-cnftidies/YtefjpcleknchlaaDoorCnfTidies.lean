/-
  CnfTidies, walked.
-/
import Derived.Test.YtefjpcleknchlaaDoorTidyW
import Derived.Test.YtefjpcleknchlaaDoorRTidy
import Derived.Test.YtefjpcleknchlaaDoorSameF
import Derived.Test.YtefjpcleknchlaaDoorSmall
set_option linter.unusedSimpArgs false
set_option linter.unusedVariables false
namespace Go.Proofs.YtefjpcleknchlaaDoor.cnfTidies
open Go.RowKit

theorem td24 {css : List (List Int)} (h : css.length * 24 ≤ 140737488351232) (n : Int) : (tdF n css).2.1.length * 24 ≤ 140737488351232 := by
  have := tdK_len css css.length
  unfold tdF; split
  · simp only; omega
  · simp
theorem td8 (css : List (List Int)) (n : Int) : ∀ z ∈ (tdF n css).2.1, z.length * 8 ≤ 140737488351232 := by
  unfold tdF; split
  · intro z hz
    obtain ⟨c, rfl⟩ := tdK_tid css _ z hz
    exact tid8 c
  · simp
theorem td_small : tdF 2 smallF = (2, (tdF 2 smallF).2.1, 0) := by decide
theorem ownf_form {B : Nat} {W : World} {s : Value} {css : List (List Int)} (h : OwnF B W s css) : ∃ a c, s = .slice a css.length c := by
  obtain ⟨L, h, rfl⟩ := h
  obtain ⟨a, c, e⟩ := row_form h.row
  exact ⟨a, c, by rw [e]; simp⟩

set_option maxHeartbeats 6400000 in
theorem walk (n : Int) (s : Value) (css : List (List Int)) (w : World) (wf : (Lit.int .i64 n).wf = true) (hr : Rds w s css) (ht : Tens w) :
    Calls Tryd.prog 3 #[.agg #[.int .i64 n, s]] w fun e w' => e = .returned (.bool true) ∧ Below w.heap.size w w' := by
  have U24 : Hid ((tdF n css).2.1.length * 24 ≤ 140737488351232) := td24 hr.len n
  have U8 : Hid (∀ z ∈ (tdF n css).2.1, z.length * 8 ≤ 140737488351232) := td8 css n
  have HX : Hid (Bx w n s css (w.alloc (.cells #[.int .i64 n, s] 24))) := Bx.new hr _
  have HT : Hid (Tens (w.alloc (.cells #[.int .i64 n, s] 24))) := Tens.below ht (below_box _ _)
  clear hr wf ht
  go_enter Tryd.func3, Tryd.ntmps3
  go_wp2_with fail
  generalize w.alloc (.cells #[.int .i64 n, s] 24) = W0 at *
  refine (small_any W0).mono ?_
  rintro e w1 ⟨s1, rfl, rs1, bel1⟩
  have HX1 : Hid (Bx w n s css w1) := HX.out.on bel1
  have HT1 : Hid (Tens w1) := Tens.below HT.out bel1
  have HS1 : Hid (Rds w1 s1 smallF) := rs1
  clear HX bel1 HT rs1
  go_wp2_with fail
  refine (cnfTidy_any 2 s1 smallF _ HS1.out HT1.out).mono ?_
  rw [td_small]
  rintro e w2 ⟨s2, rfl, own2, bel2⟩
  obtain ⟨a2, c2, hs2⟩ := ownf_form own2
  subst hs2
  have HX2 : Hid (Bx w n s css w2) := HX1.out.on bel2
  have HT2 : Hid (Tens w2) := Tens.below HT1.out bel2
  clear HX1 bel2 HS1 HT1 own2
  generalize (tdF 2 smallF).2.1.length = q2 at *
  have HX3 : Hid (Bx w n s css (w2.alloc (.cells #[.int .i64 2, .slice a2 q2 c2] 24))) := HX2.out.on (below_box _ _)
  have HT3 : Hid (Tens (w2.alloc (.cells #[.int .i64 2, .slice a2 q2 c2] 24))) := Tens.below HT2.out (below_box _ _)
  have c0 := HX3.out.c0
  have c1 := HX3.out.c1
  clear HX2 HT2
  go_wp2_with fail
  generalize w2.alloc (.cells #[.int .i64 2, .slice a2 q2 c2] 24) = w3 at *
  refine (cnfTidy_any n s css w3 HX3.out.rd HT3.out).mono ?_
  rintro e w4 ⟨s4, rfl, own4, bel4⟩
  obtain ⟨a4, c4, hs4⟩ := ownf_form own4
  subst hs4
  have HX4 : Hid (Bx w n s css w4) := HX3.out.on bel4
  have HO4 : Hid (Rds w4 (.slice a4 (tdF n css).2.1.length c4) (tdF n css).2.1) := own4.rds U24.out U8.out
  clear HX3 HT3 bel4 own4 c0 c1
  generalize hun : tdF n css = un at *
  obtain ⟨m, ucs, er⟩ := un
  simp only at *
  have HX5 : Hid (Bx w n s css (w4.alloc (.cells #[.int .i64 m, .slice a4 ucs.length c4] 24))) := HX4.out.on (below_box _ _)
  have HB5 : Hid (Bx w4 m (.slice a4 ucs.length c4) ucs (w4.alloc (.cells #[.int .i64 m, .slice a4 ucs.length c4] 24))) := Bx.new HO4.out _
  have c0 := HX5.out.c0
  have c1 := HX5.out.c1
  clear HX4 HO4
  go_wp2_with fail
  generalize w4.alloc (.cells #[.int .i64 m, .slice a4 ucs.length c4] 24) = w5 at *
  refine (rTidyF_any n s css w5 HX5.out.rd).mono ?_
  rw [hun]
  rintro e w6 ⟨s6, rfl, own6, bel6⟩
  obtain ⟨a6, c6, hs6⟩ := ownf_form own6
  subst hs6
  have HX6 : Hid (Bx w n s css w6) := HX5.out.on bel6
  have HB6 : Hid (Bx w4 m (.slice a4 ucs.length c4) ucs w6) := HB5.out.on bel6
  have HO6 : Hid (Rds w6 (.slice a6 ucs.length c6) ucs) := own6.rds U24.out U8.out
  clear HX5 HB5 bel6 own6 c0 c1
  have HX7 : Hid (Bx w n s css (w6.alloc (.cells #[.int .i64 m, .slice a6 ucs.length c6] 24))) := HX6.out.on (below_box _ _)
  have HB7 : Hid (Bx w4 m (.slice a4 ucs.length c4) ucs (w6.alloc (.cells #[.int .i64 m, .slice a6 ucs.length c6] 24))) := HB6.out.on (below_box _ _)
  have HC7 : Hid (Bx w6 m (.slice a6 ucs.length c6) ucs (w6.alloc (.cells #[.int .i64 m, .slice a6 ucs.length c6] 24))) := Bx.new HO6.out _
  have c0 := HB7.out.c0
  have c1 := HB7.out.c1
  clear HX6 HB6 HO6
  clear hun
  go_wp2_with fail
  generalize w6.alloc (.cells #[.int .i64 m, .slice a6 ucs.length c6] 24) = w7 at *
  refine (sameFormula_self m _ _ ucs w7 HB7.out.rd HC7.out.rd).mono ?_
  rintro e w8 ⟨rfl, bel8⟩
  have HX8 : Hid (Bx w n s css w8) := HX7.out.on bel8
  clear c0 c1
  go_wp2
  go_ret
  exact ⟨rfl, HX8.out.bel⟩

end Go.Proofs.YtefjpcleknchlaaDoor.cnfTidies
