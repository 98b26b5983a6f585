/-
  rup: the law RupFollows (written by walks/genrs.py).
  KEEP: set on app at below new trans refl start ap kept rd rds mono lt add none own nil put len pos setF setV putL putR other neV same_any num form fin yes walk
-/
import Derived.Test.YtkinilhapgagcaaDoorJRpF
set_option linter.unusedSimpArgs false
set_option linter.unusedVariables false
namespace Go.Proofs.YtkinilhapgagcaaDoor
open Go Go.RowKit

namespace rupFollows
set_option maxRecDepth 100000 in
set_option maxHeartbeats 1600000 in
theorem walk (n : Int) (s : Value) (css : List (List Int)) (vc : Value) (c : List Int) (w : World) (_ : (Lit.int .i64 n).wf = true) (hr : Rds w s css) (hc : Rd w vc c) (hi : ∀ x ∈ c, i64 x) (hb : css.length + (css.map List.length).sum ≤ 1048576) (hb2 : c.length ≤ 1048576) (hD : Deb w) :
    Calls Tryd.prog 3 #[.agg #[.int .i64 n, s], vc] w fun e w' => e = .returned (.bool true) ∧ Below w.heap.size w w' := by
  have hw : Few css := Few.of (by omega) (by unfold lsum; omega)
  have HX : Hid (Bx w n s css (w.alloc (.cells #[.int .i64 n, s] 24))) := Bx.new hr _
  have HR : Hid (Rd w vc c ∧ (∀ x ∈ c, i64 x) ∧ Few css ∧ Deb w) := ⟨hc, hi, hw, hD⟩
  obtain ⟨ac, cc, rfl, -, -, -⟩ := hr.form
  obtain ⟨av, cv, rfl, -, -, -⟩ := hc.form
  clear hr hc hi hw hD hb hb2
  go_enter Tryd.func3, Tryd.ntmps3
  go_wp2_with fail
  refine (small8_any _).mono ?_
  rintro e w1 ⟨s1, rfl, hr1, bel1⟩
  have HX1 : Hid (Bx w n (.slice ac css.length cc) css w1) := HX.out.on bel1
  have HR1 : Hid (Rds w1 s1 sml8) := hr1
  obtain ⟨a1, c1', rfl, -, -, -⟩ := hr1.form
  clear hr1 bel1 HX
  have HX2 : Hid (Bx w n (.slice ac css.length cc) css (w1.alloc (.cells #[.int .i64 (2), .int .i64 (-1)] 3))) := HX1.out.on (below_box _ _)
  have HCall : Hid (Calls Tryd.prog 7 #[.agg #[.int .i64 2, .slice a1 sml8.length c1'], .slice (some ⟨w1.heap.size, 0, none⟩) 2 2] (w1.alloc (.cells #[.int .i64 (2), .int .i64 (-1)] 3)) fun e w' => e = .returned (.tuple #[.bool true, .int .i64 0]) ∧ Below (w1.alloc (.cells #[.int .i64 (2), .int .i64 (-1)] 3)).heap.size (w1.alloc (.cells #[.int .i64 (2), .int .i64 (-1)] 3)) w') := (follows_any 2 _ _ sml8 [2, -1] _ (HR1.out.below (below_box _ _)) ((ownTwo w1 (2) (-1)).rd (by simp)) (by simp [i64]) sml8_few (HR.out.2.2.2.at HX2.out.bel)).mono fun e w' h => ⟨by rw [h.1]; exact two_same (congrArg Value.bool sml_fol) (congrArg (Value.int .i64) sml_sh1), h.2⟩
  go_wp2_with fail
  refine HCall.out.mono ?_
  rintro e w3 ⟨rfl, bel3⟩
  have HX3 : Hid (Bx w n (.slice ac css.length cc) css w3) := HX2.out.on bel3
  have c0 := HX3.out.c0
  have c1 := HX3.out.c1
  clear bel3 HCall HX2 HX1 HR1
  go_wp2_with fail
  refine (follows_any n _ _ css c w3 HX3.out.rd (HR.out.1.below HX3.out.bel) HR.out.2.1 HR.out.2.2.1 (HR.out.2.2.2.at HX3.out.bel)).mono ?_
  rintro e w4 ⟨rfl, bel4⟩
  have HX4 : Hid (Bx w n (.slice ac css.length cc) css w4) := HX3.out.on bel4
  have d0 := HX4.out.c0
  have d1 := HX4.out.c1
  clear bel4 c0 c1
  have HC2 : Hid (Calls Tryd.prog 9 #[.agg #[.int .i64 n, .slice ac css.length cc], .slice av c.length cv] w4 fun e w' => e = .returned (.tuple #[.bool (shp n css c && folB css c), .int .i64 (shE (shp n css c))]) ∧ Below w4.heap.size w4 w') := rFollows8_any n _ _ css c w4 HX4.out.rd (HR.out.1.below HX4.out.bel) HR.out.2.2.1
  generalize (shp n css c && folB css c) = q at *
  generalize shE (shp n css c) = q2 at *
  go_wp2_with fail
  refine HC2.out.mono ?_
  rintro e w5 ⟨rfl, bel5⟩
  have HB : Hid (Below w.heap.size w w5) := Below.step HX4.out.bel bel5
  clear bel5 HC2
  have hq1 : (q == q) = true := by simp
  have hq2 : ((q2 : Int) == q2) = true := by simp
  go_wp2
  go_ret
  exact ⟨rfl, HB.out⟩
end rupFollows
end Go.Proofs.YtkinilhapgagcaaDoor
