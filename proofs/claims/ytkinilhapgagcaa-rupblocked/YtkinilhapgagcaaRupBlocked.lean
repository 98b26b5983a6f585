/-
  rup: the law RupBlocked (written by walks/genrs.py).
  KEEP: set on app at below new trans refl start ap kept rd rds mono lt add none own nil put len pos setF setV putL putR other neV same_any num form fin yes walk
-/
import Derived.Test.YtkinilhapgagcaaRpE
import Derived.Test.YtkinilhapgagcaaRuS
set_option linter.unusedSimpArgs false
set_option linter.unusedVariables false
namespace Go.Proofs.Ytkinilhapgagcaa
open Go Go.RowKit

theorem sml_blk : (shB 2 sml8 [1, -2] && blkB sml8 [1, -2]) = true := by decide
theorem sml_shb : shBE (shB 2 sml8 [1, -2]) = 0 := by decide
namespace rupBlocked
set_option maxRecDepth 100000 in
set_option maxHeartbeats 1600000 in
theorem walk (n : Int) (s : Value) (css : List (List Int)) (vc : Value) (c : List Int) (w : World) (_ : (Lit.int .i64 n).wf = true) (hr : Rds w s css) (hc : Rd w vc c) :
    Calls Try.prog 4 #[.agg #[.int .i64 n, s], vc] w fun e w' => e = .returned (.bool true) ∧ Below w.heap.size w w' := by
  have HX : Hid (Bx w n s css (w.alloc (.cells #[.int .i64 n, s] 24))) := Bx.new hr _
  have HR : Hid (Rd w vc c ∧ True) := ⟨hc, trivial⟩
  obtain ⟨ac, cc, rfl, -, -, -⟩ := hr.form
  obtain ⟨av, cv, rfl, -, -, -⟩ := hc.form
  clear hr hc
  go_enter Try.func4, Try.ntmps4
  go_wp2_with fail
  refine (small8_any _).mono ?_
  rintro e w1 ⟨s1, rfl, hr1, bel1⟩
  have HX1 : Hid (Bx w n (.slice ac css.length cc) css w1) := HX.out.on bel1
  have HR1 : Hid (Rds w1 s1 sml8) := hr1
  obtain ⟨a1, c1', rfl, -, -, -⟩ := hr1.form
  clear hr1 bel1 HX
  have HX2 : Hid (Bx w n (.slice ac css.length cc) css (w1.alloc (.cells #[.int .i64 (1), .int .i64 (-2)] 3))) := HX1.out.on (below_box _ _)
  have HCall : Hid (Calls Try.prog 9 #[.agg #[.int .i64 2, .slice a1 sml8.length c1'], .slice (some ⟨w1.heap.size, 0, none⟩) 2 2] (w1.alloc (.cells #[.int .i64 (1), .int .i64 (-2)] 3)) fun e w' => e = .returned (.tuple #[.bool true, .int .i64 0]) ∧ Below (w1.alloc (.cells #[.int .i64 (1), .int .i64 (-2)] 3)).heap.size (w1.alloc (.cells #[.int .i64 (1), .int .i64 (-2)] 3)) w') := (blocked_any 2 _ _ sml8 [1, -2] _ (HR1.out.below (below_box _ _)) ((ownTwo w1 (1) (-2)).rd (by simp))).mono fun e w' h => ⟨by rw [h.1]; exact two_sameB (congrArg Value.bool sml_blk) (congrArg (Value.int .i64) sml_shb), h.2⟩
  go_wp2_with fail
  refine HCall.out.mono ?_
  rintro e w3 ⟨rfl, bel3⟩
  have HX3 : Hid (Bx w n (.slice ac css.length cc) css w3) := HX2.out.on bel3
  have c0 := HX3.out.c0
  have c1 := HX3.out.c1
  clear bel3 HCall HX2 HX1 HR1
  go_wp2_with fail
  refine (blocked_any n _ _ css c w3 HX3.out.rd (HR.out.1.below HX3.out.bel)).mono ?_
  rintro e w4 ⟨rfl, bel4⟩
  have HX4 : Hid (Bx w n (.slice ac css.length cc) css w4) := HX3.out.on bel4
  have d0 := HX4.out.c0
  have d1 := HX4.out.c1
  clear bel4 c0 c1
  have HC2 : Hid (Calls Try.prog 10 #[.agg #[.int .i64 n, .slice ac css.length cc], .slice av c.length cv] w4 fun e w' => e = .returned (.tuple #[.bool (shB n css c && blkB css c), .int .i64 (shBE (shB n css c))]) ∧ Below w4.heap.size w4 w') := rBlocked_any n _ _ css c w4 HX4.out.rd (HR.out.1.below HX4.out.bel)
  generalize (shB n css c && blkB css c) = q at *
  generalize shBE (shB n css c) = q2 at *
  go_wp2_with fail
  refine HC2.out.mono ?_
  rintro e w5 ⟨rfl, bel5⟩
  have HB : Hid (Below w.heap.size w w5) := Below.step HX4.out.bel bel5
  clear bel5 HC2
  have hq1 : (q == q) = true := by simp
  have hq2 : ((q2 : Int) == q2) = true := by simp
  go_wp2
  go_ret
  exact ⟨rfl, HB.out⟩
end rupBlocked
end Go.Proofs.Ytkinilhapgagcaa
