/-
  rup: the document's Follows, Safe, Kind, whole (written by walks/genrs.py).
  KEEP: set on app at below new trans refl start ap kept rd rds mono lt add none own nil put len pos setF setV putL putR other neV same_any num form fin yes
-/
import Derived.Test.YtkinilhapgagcaaDoorRpR
set_option linter.unusedSimpArgs false
set_option linter.unusedVariables false
namespace Go.Proofs.YtkinilhapgagcaaDoor
open Go Go.RowKit

set_option maxRecDepth 100000 in
set_option maxHeartbeats 1600000 in
theorem rFollows8_any (v : Int) (s vc : Value) (css : List (List Int)) (c : List Int) (w : World) (hr : Rds w s css) (hc : Rd w vc c) (hw : Few css) :
    Calls Tryd.prog 9 #[.agg #[.int .i64 v, s], vc] w fun e w' => e = .returned (.tuple #[.bool (shp v css c && folB css c), .int .i64 (shE (shp v css c))]) ∧ Below w.heap.size w w' := by
  have HX : Hid (Bx w v s css (w.alloc (.cells #[.int .i64 v, s] 24))) := Bx.new hr _
  have HR : Hid (Rd w vc c ∧ Few css) := ⟨hc, hw⟩
  obtain ⟨ac, cc, rfl, -, -, -⟩ := hr.form
  obtain ⟨av, cv, rfl, -, -, -⟩ := hc.form
  have hsv : shp v css c = (frm v css && c.all fmd) := rfl
  have HSv : Hid (shp v css c = (frm v css && c.all fmd)) := hsv
  clear hr hc hw hsv
  go_enter Tryd.func9, Tryd.ntmps9
  go_wp2_with fail
  refine (rFormed_any v _ css _ HX.out.rd).mono ?_
  rintro e w1 ⟨rfl, bel1⟩
  have HX1 : Hid (Bx w v (.slice ac css.length cc) css w1) := HX.out.on bel1
  have c0 := HX1.out.c0
  have c1 := HX1.out.c1
  clear bel1 HX
  cases hf : frm v css
  · have HS : Hid (shp v css c = false) := by show _ = _; rw [HSv.out, hf]; rfl
    clear hf
    go_wp2
    go_ret2
    exact ⟨two_same (congrArg Value.bool (by rw [HS.out]; rfl)) (congrArg (fun b => Value.int .i64 (shE b)) HS.out.symm), HX1.out.bel⟩
  · have HFr : Hid (frm v css = true) := hf
    have HSd : Hid (Calls Tryd.prog 24 #[.slice av c.length cv] w1 fun e w' => e = .returned (.bool (c.all fmd)) ∧ w' = w1) := rSound_any _ c w1 (HR.out.1.below HX1.out.bel)
    cases hs : c.all fmd
    · have HS : Hid (shp v css c = false) := by show _ = _; rw [HSv.out, hf, hs]; rfl
      rw [hs] at HSd
      clear hf hs
      go_wp2_with fail
      refine HSd.out.mono ?_
      rintro e w9 ⟨rfl, hw9⟩
      obtain rfl := hw9.symm
      clear hw9
      go_wp2
      go_ret2
      exact ⟨two_same (congrArg Value.bool (by rw [HS.out]; rfl)) (congrArg (fun b => Value.int .i64 (shE b)) HS.out.symm), HX1.out.bel⟩
    · have HS : Hid (shp v css c = true) := by show _ = _; rw [HSv.out, hf, hs]; rfl
      have HAl : Hid (c.all fmd = true) := hs
      rw [hs] at HSd
      clear hf hs
      go_wp2_with fail
      refine HSd.out.mono ?_
      rintro e w9 ⟨rfl, hw9⟩
      obtain rfl := hw9.symm
      clear hw9
      go_wp2_with fail
      refine (rfol_any v _ _ css c w1 HX1.out.rd (HR.out.1.below HX1.out.bel) HR.out.2 HFr.out HAl.out).mono ?_
      rintro e w2 ⟨rfl, bel2⟩
      have HB : Hid (Below w.heap.size w w2) := Below.step HX1.out.bel bel2
      clear bel2 c0 c1
      generalize hq : folB css c = q at *
      have HQ : Hid (folB css c = q) := hq
      clear hq
      go_wp2
      go_ret2
      exact ⟨two_same (congrArg Value.bool (by rw [HS.out, HQ.out]; rfl)) (congrArg (fun b => Value.int .i64 (shE b)) HS.out.symm), HB.out⟩
set_option maxRecDepth 100000 in
set_option maxHeartbeats 1600000 in
theorem rSafe8_any (v : Int) (s vc : Value) (css : List (List Int)) (c : List Int) (w : World) (hr : Rds w s css) (hc : Rd w vc c) (hw : Few css) :
    Calls Tryd.prog 11 #[.agg #[.int .i64 v, s], vc] w fun e w' => e = .returned (.tuple #[.bool (shp v css c && safB css c), .int .i64 (shE (shp v css c))]) ∧ Below w.heap.size w w' := by
  have HX : Hid (Bx w v s css (w.alloc (.cells #[.int .i64 v, s] 24))) := Bx.new hr _
  have HR : Hid (Rd w vc c ∧ Few css) := ⟨hc, hw⟩
  obtain ⟨ac, cc, rfl, -, -, -⟩ := hr.form
  obtain ⟨av, cv, rfl, -, -, -⟩ := hc.form
  have hsv : shp v css c = (frm v css && c.all fmd) := rfl
  have HSv : Hid (shp v css c = (frm v css && c.all fmd)) := hsv
  clear hr hc hw hsv
  go_enter Tryd.func11, Tryd.ntmps11
  go_wp2_with fail
  refine (rFormed_any v _ css _ HX.out.rd).mono ?_
  rintro e w1 ⟨rfl, bel1⟩
  have HX1 : Hid (Bx w v (.slice ac css.length cc) css w1) := HX.out.on bel1
  have c0 := HX1.out.c0
  have c1 := HX1.out.c1
  clear bel1 HX
  cases hf : frm v css
  · have HS : Hid (shp v css c = false) := by show _ = _; rw [HSv.out, hf]; rfl
    clear hf
    go_wp2
    go_ret2
    exact ⟨two_same (congrArg Value.bool (by rw [HS.out]; rfl)) (congrArg (fun b => Value.int .i64 (shE b)) HS.out.symm), HX1.out.bel⟩
  · have HFr : Hid (frm v css = true) := hf
    have HSd : Hid (Calls Tryd.prog 24 #[.slice av c.length cv] w1 fun e w' => e = .returned (.bool (c.all fmd)) ∧ w' = w1) := rSound_any _ c w1 (HR.out.1.below HX1.out.bel)
    cases hs : c.all fmd
    · have HS : Hid (shp v css c = false) := by show _ = _; rw [HSv.out, hf, hs]; rfl
      rw [hs] at HSd
      clear hf hs
      go_wp2_with fail
      refine HSd.out.mono ?_
      rintro e w9 ⟨rfl, hw9⟩
      obtain rfl := hw9.symm
      clear hw9
      go_wp2
      go_ret2
      exact ⟨two_same (congrArg Value.bool (by rw [HS.out]; rfl)) (congrArg (fun b => Value.int .i64 (shE b)) HS.out.symm), HX1.out.bel⟩
    · have HS : Hid (shp v css c = true) := by show _ = _; rw [HSv.out, hf, hs]; rfl
      have HAl : Hid (c.all fmd = true) := hs
      rw [hs] at HSd
      clear hf hs
      go_wp2_with fail
      refine HSd.out.mono ?_
      rintro e w9 ⟨rfl, hw9⟩
      obtain rfl := hw9.symm
      clear hw9
      go_wp2_with fail
      refine (rsafe_any v _ _ css c w1 HX1.out.rd (HR.out.1.below HX1.out.bel) HR.out.2 HFr.out HAl.out).mono ?_
      rintro e w2 ⟨rfl, bel2⟩
      have HB : Hid (Below w.heap.size w w2) := Below.step HX1.out.bel bel2
      clear bel2 c0 c1
      generalize hq : safB css c = q at *
      have HQ : Hid (safB css c = q) := hq
      clear hq
      go_wp2
      go_ret2
      exact ⟨two_same (congrArg Value.bool (by rw [HS.out, HQ.out]; rfl)) (congrArg (fun b => Value.int .i64 (shE b)) HS.out.symm), HB.out⟩
set_option maxRecDepth 100000 in
set_option maxHeartbeats 1600000 in
theorem rKind8_any (v : Int) (s vc : Value) (css : List (List Int)) (c : List Int) (w : World) (hr : Rds w s css) (hc : Rd w vc c) (hw : Few css) :
    Calls Tryd.prog 13 #[.agg #[.int .i64 v, s], vc] w fun e w' => e = .returned (.tuple #[.int .i64 (kn8 v css c), .int .i64 (shE (shp v css c))]) ∧ Below w.heap.size w w' := by
  have HX : Hid (Bx w v s css (w.alloc (.cells #[.int .i64 v, s] 24))) := Bx.new hr _
  have HR : Hid (Rd w vc c ∧ Few css) := ⟨hc, hw⟩
  obtain ⟨ac, cc, rfl, -, -, -⟩ := hr.form
  obtain ⟨av, cv, rfl, -, -, -⟩ := hc.form
  have hsv : shp v css c = (frm v css && c.all fmd) := rfl
  have HSv : Hid (shp v css c = (frm v css && c.all fmd)) := hsv
  clear hr hc hw hsv
  go_enter Tryd.func13, Tryd.ntmps13
  go_wp2_with fail
  refine (rFormed_any v _ css _ HX.out.rd).mono ?_
  rintro e w1 ⟨rfl, bel1⟩
  have HX1 : Hid (Bx w v (.slice ac css.length cc) css w1) := HX.out.on bel1
  have c0 := HX1.out.c0
  have c1 := HX1.out.c1
  clear bel1 HX
  cases hf : frm v css
  · have HS : Hid (shp v css c = false) := by show _ = _; rw [HSv.out, hf]; rfl
    clear hf
    go_wp2
    go_ret2
    exact ⟨two_same (congrArg (Value.int .i64) (kn8_no HS.out).symm) (congrArg (fun b => Value.int .i64 (shE b)) HS.out.symm), HX1.out.bel⟩
  · have HFr : Hid (frm v css = true) := hf
    have HSd : Hid (Calls Tryd.prog 24 #[.slice av c.length cv] w1 fun e w' => e = .returned (.bool (c.all fmd)) ∧ w' = w1) := rSound_any _ c w1 (HR.out.1.below HX1.out.bel)
    cases hs : c.all fmd
    · have HS : Hid (shp v css c = false) := by show _ = _; rw [HSv.out, hf, hs]; rfl
      rw [hs] at HSd
      clear hf hs
      go_wp2_with fail
      refine HSd.out.mono ?_
      rintro e w9 ⟨rfl, hw9⟩
      obtain rfl := hw9.symm
      clear hw9
      go_wp2
      go_ret2
      exact ⟨two_same (congrArg (Value.int .i64) (kn8_no HS.out).symm) (congrArg (fun b => Value.int .i64 (shE b)) HS.out.symm), HX1.out.bel⟩
    · have HS : Hid (shp v css c = true) := by show _ = _; rw [HSv.out, hf, hs]; rfl
      have HAl : Hid (c.all fmd = true) := hs
      rw [hs] at HSd
      clear hf hs
      go_wp2_with fail
      refine HSd.out.mono ?_
      rintro e w9 ⟨rfl, hw9⟩
      obtain rfl := hw9.symm
      clear hw9
      go_wp2_with fail
      refine (rfol_any v _ _ css c w1 HX1.out.rd (HR.out.1.below HX1.out.bel) HR.out.2 HFr.out HAl.out).mono ?_
      rintro e w2 ⟨rfl, bel2⟩
      have HX2 : Hid (Bx w v (.slice ac css.length cc) css w2) := HX1.out.on bel2
      have d0 := HX2.out.c0
      have d1 := HX2.out.c1
      clear bel2 c0 c1
      have HSaf : Hid (Calls Tryd.prog 27 #[.agg #[.int .i64 v, .slice ac css.length cc], .slice av c.length cv] w2 fun e w' => e = .returned (.bool (safB css c)) ∧ Below w2.heap.size w2 w') := rsafe_any v _ _ css c w2 HX2.out.rd (HR.out.1.below HX2.out.bel) HR.out.2 HFr.out HAl.out
      cases hq : folB css c
      · have HK : Hid (kn8 v css c = if safB css c then 2 else 0) := by show _ = _; rw [kn8_yes HS.out]; unfold kndI; rw [hq]; rfl
        clear hq
        generalize hsf : safB css c = sf at *
        clear hsf
        go_wp2_with fail
        refine HSaf.out.mono ?_
        rintro e w3 ⟨rfl, bel3⟩
        have HB : Hid (Below w.heap.size w w3) := Below.step HX2.out.bel bel3
        clear bel3 HSaf
        cases sf
        · go_wp2
          go_ret2
          exact ⟨two_same (congrArg (Value.int .i64) HK.out.symm) (congrArg (fun b => Value.int .i64 (shE b)) HS.out.symm), HB.out⟩
        · go_wp2
          go_ret2
          exact ⟨two_same (congrArg (Value.int .i64) HK.out.symm) (congrArg (fun b => Value.int .i64 (shE b)) HS.out.symm), HB.out⟩
      · have HK : Hid (kn8 v css c = 1) := by show _ = _; rw [kn8_yes HS.out]; unfold kndI; rw [hq]; rfl
        clear hq HSaf
        go_wp2
        go_ret2
        exact ⟨two_same (congrArg (Value.int .i64) HK.out.symm) (congrArg (fun b => Value.int .i64 (shE b)) HS.out.symm), HX2.out.bel⟩
end Go.Proofs.YtkinilhapgagcaaDoor
