/-
  rup: what is true of the small formula.
  KEEP: set on app at below new trans refl start ap kept rd rds mono lt add none own nil put len pos setF setV putL putR other neV same_any num form fin yes
-/
import Derived.Test.YtkinilhapgagcaaDoorRpL
import Derived.Test.YtkinilhapgagcaaDoorRpK
import Derived.Test.YtkinilhapgagcaaDoorRuS
set_option linter.unusedSimpArgs false
set_option linter.unusedVariables false
namespace Go.Proofs.YtkinilhapgagcaaDoor
open Go Go.RowKit

theorem sml8_few : Few sml8 := Few.of (by decide) (by decide)
theorem sml_calm {L : List Int} (h : (-1 : Int) ∈ L ∨ (2 : Int) ∈ L) (hc : Con L) : ¬ Cla sml8 L := by
  refine (calm_der hc fun k hk => ?_).2
  have hk0 : k = 0 := by have : sml8.length = 1 := rfl; omega
  subst hk0
  rcases h with a | a
  · exact kd_true (c := [-1, 2]) (by simp) a
  · exact kd_true (c := [-1, 2]) (by simp) a
theorem fol_21 : folB sml8 [2, -1] = true := claB_of (.inr ⟨[-1, 2], by simp [sml8], fun m hm => .fact (by
  have : m = -1 ∨ m = 2 := by simpa using hm
  rcases this with e | e <;> subst e <;> simp [opp])⟩)
theorem fol_12 : folB sml8 [1, -2] = false := claB_not (sml_calm (.inl (by simp [opp])) (by
  intro l hl
  have : l = -1 ∨ l = 2 := by simpa [opp] using hl
  rcases this with e | e <;> subst e <;> simp [opp]))
theorem saf_12 : safB sml8 [1, -2] = true := by
  unfold safB parB
  have h1 : claB sml8 (opp [1, -2] ++ opp (rst [-1, 2] 1)) = true := claB_of (.inl ⟨2, .fact (by simp [opp]), .fact (by simp [opp, rst])⟩)
  simp only [sml8, List.all_cons, List.all_nil, Bool.and_true]
  unfold sml8 at h1
  rw [h1]; simp
theorem fol_2 : folB sml8 [-2] = false := claB_not (sml_calm (.inr (by simp [opp])) (by
  intro l hl
  have : l = 2 := by simpa [opp] using hl
  subst this; simp [opp]))
theorem saf_2 : safB sml8 [-2] = false := by
  unfold safB parB
  have h1 : claB sml8 (opp [-2] ++ opp (rst [-1, 2] (-2))) = false := claB_not (sml_calm (.inr (by simp [opp])) (by
    intro l hl
    have : l = 2 ∨ l = 1 := by simpa [opp, rst] using hl
    rcases this with e | e <;> subst e <;> simp [opp, rst]))
  simp only [sml8, List.all_cons, List.all_nil, Bool.and_true]
  unfold sml8 at h1
  rw [h1]; simp
theorem shp_21 : shp 2 sml8 [2, -1] = true := by decide
theorem shp_12 : shp 2 sml8 [1, -2] = true := by decide
theorem shp_2 : shp 2 sml8 [-2] = true := by decide
theorem sml_fol : (shp 2 sml8 [2, -1] && folB sml8 [2, -1]) = true := by rw [shp_21, fol_21]; rfl
theorem sml_saf : (shp 2 sml8 [1, -2] && safB sml8 [1, -2]) = true := by rw [shp_12, saf_12]; rfl
theorem sml_knd : kn8 2 sml8 [1, -2] = 2 := by rw [kn8_yes shp_12]; unfold kndI; rw [fol_12, saf_12]; rfl
theorem sml_non : kn8 2 sml8 [-2] = 0 := by rw [kn8_yes shp_2]; unfold kndI; rw [fol_2, saf_2]; rfl
theorem sml_fn : (shp 2 sml8 [1, -2] && folB sml8 [1, -2]) = false := by rw [shp_12, fol_12]; rfl
theorem sml_sh1 : shE (shp 2 sml8 [2, -1]) = 0 := by rw [shp_21]; rfl
theorem sml_sh2 : shE (shp 2 sml8 [1, -2]) = 0 := by rw [shp_12]; rfl
theorem sml_sh3 : shE (shp 2 sml8 [-2]) = 0 := by rw [shp_2]; rfl
end Go.Proofs.YtkinilhapgagcaaDoor
