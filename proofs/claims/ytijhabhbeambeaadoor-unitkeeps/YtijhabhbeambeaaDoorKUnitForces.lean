/-
  UnitForces: Forces of the program and of the document's answer; the walk.
  KEEP: set on app at below new trans refl start ap kept rd rds mono lt add none own nil put len pos setF setV putL putR other neV same_any
-/
import Derived.Test.YtijhabhbeambeaaDoorKUnitCloses
set_option linter.unusedSimpArgs false
set_option linter.unusedVariables false
namespace Go.Proofs.YtijhabhbeambeaaDoor
open Go Go.RowKit

def frcE (v : Int) (css : List (List Int)) (facts : List Int) (l : Int) : Int := if fmd l then cloE v css facts else 1
/-- what Forces answers -/
noncomputable def frcB (v : Int) (css : List (List Int)) (facts : List Int) (l : Int) : Bool := @decide (frcE v css facts l = 0 ∧ (Cla css facts ∨ Der css facts l)) (Classical.propDecidable _)
theorem frcB_true {v : Int} {css : List (List Int)} {facts : List Int} {l : Int} (h0 : frcE v css facts l = 0) (h : Cla css facts ∨ Der css facts l) : frcB v css facts l = true := (@decide_eq_true_iff _ (Classical.propDecidable _)).2 ⟨h0, h⟩
theorem frcB_false {v : Int} {css : List (List Int)} {facts : List Int} {l : Int} (h : ¬ (frcE v css facts l = 0 ∧ (Cla css facts ∨ Der css facts l))) : frcB v css facts l = false := (@decide_eq_false_iff_not _ (Classical.propDecidable _)).2 h
set_option maxRecDepth 100000 in
theorem uForces_any (v : Int) (s vf : Value) (css : List (List Int)) (facts : List Int) (l : Int) (w : World) (hr : Rds w s css) (hf : Rd w vf facts) (hw : Few css) (hD : Deb w) :
    Calls Tryd.prog 13 #[.agg #[.int .i64 v, s], vf, .int .i64 l] w fun e w' => e = .returned (.tuple #[.bool (frcB v css facts l), .int .i64 (frcE v css facts l)]) ∧ Below w.heap.size w w' := by
  have HR : Hid (Rds w s css ∧ Rd w vf facts ∧ Few css ∧ Deb w) := ⟨hr, hf, hw, hD⟩
  have HB1 : Hid (Below w.heap.size w (w.alloc (.cells #[.int .i64 v, s] 24))) := below_box _ _
  clear hr hf hw hD
  cases hfl : fmd l
  · have HE : Hid (frcE v css facts l = 1 ∧ frcB v css facts l = false) := by
      have e1 : frcE v css facts l = 1 := by unfold frcE; rw [hfl]; rfl
      exact ⟨e1, frcB_false fun h => by rw [e1] at h; omega⟩
    rw [HE.out.1, HE.out.2]
    go_enter Tryd.func13, Tryd.ntmps13
    go_wp2_with fail
    refine (formed_any l _).mono ?_
    rintro e w1 ⟨rfl, hw1⟩
    obtain rfl := hw1
    rw [hfl]
    go_wp2
    go_ret2
    exact ⟨rfl, HB1.out⟩
  · have HE : Hid (frcE v css facts l = cloE v css facts) := by show _ = _; unfold frcE; rw [hfl]; rfl
    go_enter Tryd.func13, Tryd.ntmps13
    go_wp2_with fail
    refine (formed_any l _).mono ?_
    rintro e w1 ⟨rfl, hw1⟩
    obtain rfl := hw1
    have HFl : Hid (fmd l = true) := hfl
    rw [hfl]
    go_wp2_with fail
    refine (uClose_any v s vf css facts _ (HR.out.1.below (below_box _ _)) (HR.out.2.1.below (below_box _ _)) HR.out.2.2.1 (HR.out.2.2.2.below (below_box _ _))).mono ?_
    rintro e w2 ⟨u, cl, D, rfl, hcz⟩
    have HB2 : Hid (Below w.heap.size w w2) := Below.step HB1.out hcz.bel
    have HCz : Hid (Clz (w.alloc (.cells #[.int .i64 v, s] 24)) w2 v css facts u cl D) := hcz
    obtain ⟨au, cu, eu⟩ := own_form hcz.own
    subst eu
    have HB : Hid (frcB v css facts l = (cl || D.contains l)) := by
      show _ = _
      by_cases h0 : cloE v css facts = 0
      · rcases hcz.yes h0 with ⟨a, b, c⟩ | ⟨a, b, c, d⟩
        · rw [a, frcB_true (HE.out.trans h0) (.inl b)]; rfl
        · rw [a, Bool.false_or]
          by_cases h1 : l ∈ D
          · rw [frcB_true (HE.out.trans h0) (.inr ((d l).1 h1))]
            exact (List.contains_iff_mem.2 h1).symm
          · rw [frcB_false fun h => h.2.elim b (fun h2 => h1 ((d l).2 h2))]
            cases hh : D.contains l
            · rfl
            · exact absurd (List.contains_iff_mem.1 hh) h1
      · obtain ⟨a, b⟩ := hcz.no h0
        rw [frcB_false fun h => h0 (HE.out.symm.trans h.1), a, b]; rfl
    clear hcz hfl
    cases cl
    · have HHas : Hid (Calls Tryd.prog 40 #[.slice au D.length cu, .int .i64 l] w2 fun e w' => e = .returned (.bool (D.contains l)) ∧ w' = w2) := by
        have := has_any (.slice au D.length cu) D l w2 (HCz.out.own.rd (clz_len HCz.out))
        rw [HFl.out, Bool.true_and] at this
        exact this
      generalize D.contains l = q at *
      generalize cloE v css facts = E at *
      go_wp2_with fail
      refine HHas.out.mono ?_
      rintro e w3 ⟨rfl, hw3⟩
      obtain rfl := hw3
      go_wp2
      go_ret2
      exact ⟨by rw [HB.out, HE.out]; rfl, HB2.out⟩
    · generalize cloE v css facts = E at *
      go_wp2
      go_ret2
      exact ⟨by rw [HB.out, HE.out]; rfl, HB2.out⟩
set_option maxRecDepth 100000 in
theorem rForces_any (v : Int) (s vf : Value) (css : List (List Int)) (facts : List Int) (l : Int) (w : World) (hr : Rds w s css) (hf : Rd w vf facts) (hN : css.length ≤ 1073741824) :
    Calls Tryd.prog 18 #[.agg #[.int .i64 v, s], vf, .int .i64 l] w fun e w' => e = .returned (.tuple #[.bool (frcB v css facts l), .int .i64 (frcE v css facts l)]) ∧ Below w.heap.size w w' := by
  have HR : Hid (Rds w s css ∧ Rd w vf facts) := ⟨hr, hf⟩
  have HB1 : Hid (Below w.heap.size w (w.alloc (.cells #[.int .i64 v, s] 24))) := below_box _ _
  have k0 := box0 w (.int .i64 v) s 24
  have k1 := box1 w (.int .i64 v) s 24
  have hbs : w.heap.size < (w.alloc (.cells #[.int .i64 v, s] 24)).heap.size := by rw [World.size_alloc]; exact Nat.lt_succ_self _
  have HX0 : Hid (∀ W, Below (w.alloc (.cells #[.int .i64 v, s] 24)).heap.size (w.alloc (.cells #[.int .i64 v, s] 24)) W → W.cell? ⟨w.heap.size, 0, none⟩ = some (.int .i64 v) ∧ W.cell? ⟨w.heap.size, 1, none⟩ = some s) := fun W hW => ⟨(hW.cell (p := ⟨w.heap.size, 0, none⟩) hbs).trans k0, (hW.cell (p := ⟨w.heap.size, 1, none⟩) hbs).trans k1⟩
  have HBad : Hid ((frm v css && facts.all fmd && fmd l) = false → frcE v css facts l = 1 ∧ frcB v css facts l = false) := fun h => by
    have e1 : frcE v css facts l = 1 := by
      unfold frcE
      cases hh : fmd l
      · rfl
      · show cloE v css facts = 1
        unfold cloE
        rw [hh, Bool.and_true] at h
        rw [h]; rfl
    exact ⟨e1, frcB_false fun h => by rw [e1] at h; omega⟩
  clear hr hf k0 k1 hbs
  go_enter Tryd.func18, Tryd.ntmps18
  go_wp2_with fail
  refine (rFormed_any v s css _ (HR.out.1.below (below_box _ _))).mono ?_
  rintro e w1 ⟨rfl, bel1⟩
  generalize w.alloc (.cells #[.int .i64 v, s] 24) = W0 at *
  have HBx : Hid (Below W0.heap.size W0 w1) := bel1
  clear bel1
  cases hfm : frm v css
  · have HE : Hid (_ ∧ _) := HBad.out (by rw [hfm]; rfl)
    go_wp2
    go_ret2
    exact ⟨by rw [HE.out.1, HE.out.2]; rfl, Below.step HB1.out HBx.out⟩
  · go_wp2_with fail
    refine (rSound_any _ facts w1 (HR.out.2.below (Below.step HB1.out HBx.out))).mono ?_
    rintro e w2 ⟨rfl, hw2⟩
    obtain rfl : w1 = w2 := hw2.symm
    clear hw2
    cases hsd : facts.all fmd
    · have HE : Hid (_ ∧ _) := HBad.out (by rw [hfm, hsd]; rfl)
      go_wp2
      go_ret2
      exact ⟨by rw [HE.out.1, HE.out.2]; rfl, Below.step HB1.out HBx.out⟩
    · go_wp2_with fail
      refine (refFormed_any l w1).mono ?_
      rintro e w2 ⟨rfl, hw2⟩
      obtain rfl : w1 = w2 := hw2.symm
      clear hw2
      cases hfl : fmd l
      · have HE : Hid (_ ∧ _) := HBad.out (by rw [hfm, hsd, hfl]; rfl)
        go_wp2
        go_ret2
        exact ⟨by rw [HE.out.1, HE.out.2]; rfl, Below.step HB1.out HBx.out⟩
      · obtain ⟨k0, k1⟩ := HX0.out w1 HBx.out
        have HE0 : Hid (frcE v css facts l = 0) := by show _ = _; unfold frcE cloE; rw [hfl, hfm, hsd]; rfl
        have HFl : Hid (fmd l = true) := hfl
        go_wp2_with fail
        refine (rClosing_any v s vf css facts w1 (HR.out.1.below (Below.step HB1.out HBx.out)) (HR.out.2.below (Below.step HB1.out HBx.out)) hfm hsd hN).mono ?_
        rintro e w2 ⟨g, clash, rfl, bel2, hyes, hno⟩
        have HB2 : Hid (Below w.heap.size w w2) := Below.step (Below.step HB1.out HBx.out) bel2
        have HT : Hid ((topL css facts).toNat ≤ 1048576) := by have := (top_range css facts).2.1; show _ ≤ _; omega
        generalize (topL css facts).toNat = T at *
        clear hfm hsd hfl k0 k1
        cases clash
        · obtain ⟨L, hvz, hcon, hupt, hncl, hder⟩ := hno rfl
          have HV : Hid (Calls Tryd.prog 46 #[.slice (some ⟨g, 0, none⟩) (T + 1) (T + 1), .int .i64 l] w2 fun e w' => e = .returned (.int .i64 (vl L l)) ∧ w' = w2) := rValue_any _ T L l w2 (hvz.rd HT.out) HT.out HFl.out hcon (by
            by_cases hh : l.natAbs ≤ T
            · exact .inl hh
            · exact .inr ⟨fun h => hh (hupt l h).2, fun h => hh (by have := (hupt _ h).2; omega)⟩)
          have HB : Hid (frcB v css facts l = (vl L l == 1)) := by
            show _ = _
            by_cases h1 : l ∈ L
            · rw [frcB_true HE0.out (.inr ((hder l).2 h1)), vl_one.2 h1]; rfl
            · rw [frcB_false fun h => h.2.elim hncl (fun h2 => h1 ((hder l).1 h2))]
              have : vl L l ≠ 1 := fun h => h1 (vl_one.1 h)
              symm
              simpa using this
          clear hvz hcon hupt hncl hder hyes hno bel2
          generalize vl L l = x at *
          go_wp2_with fail
          refine HV.out.mono ?_
          rintro e w3 ⟨rfl, hw3⟩
          obtain rfl := hw3
          go_wp2
          all_goals
            go_ret2
            exact ⟨by rw [HB.out, HE0.out]; rfl, HB2.out⟩
        · have HB : Hid (frcB v css facts l = true) := frcB_true HE0.out (.inl (hyes rfl))
          clear hyes hno bel2
          go_wp2
          go_ret2
          exact ⟨by rw [HB.out, HE0.out]; rfl, HB2.out⟩
namespace unitForces
end unitForces
end Go.Proofs.YtijhabhbeambeaaDoor
