/-
  RupGrows: the walk.
  KEEP: set on app at below new trans refl start ap kept rd rds mono lt add none own nil put len pos setF setV putL putR other neV same_any walk
-/
import Derived.Test.YtkinilhapgagcabDoorKRpG
import Derived.Test.YtkinilhapgagcabDoorJRpF
import Derived.Deep.RegionHeld
set_option linter.unusedSimpArgs false
set_option linter.unusedVariables false
namespace Go.Proofs.YtkinilhapgagcabDoor
open Go Go.RowKit
namespace rupGrows
set_option maxRecDepth 100000 in
set_option maxHeartbeats 4000000 in
theorem walk (n : Int) (s : Value) (css : List (List Int)) (vc : Value) (c : List Int) (vd : Value) (d : List Int) (w : World) (_ : (Lit.int .i64 n).wf = true) (hr : Rds w s css) (hc : Rd w vc c) (hi : ∀ x ∈ c, i64 x) (hd : Rd w vd d) (hb : css.length + (css.map List.length).sum ≤ 1048576) (hb2 : c.length ≤ 1048576) (hb3 : d.length ≤ 1048576) (hD : Deb w) :
    Calls Tryd.prog 3 #[.agg #[.int .i64 n, s], vc, vd] w fun e w' => e = .returned (.bool true) ∧ Below w.heap.size w w' := by
  have hw : Few css := Few.of (by omega) (by unfold lsum; omega)
  have HX : Hid (Bx w n s css (w.alloc (.cells #[.int .i64 n, s] 24))) := Bx.new hr _
  have HR : Hid (Rd w vc c ∧ (∀ x ∈ c, i64 x) ∧ Few css ∧ Deb w ∧ Rd w vd d ∧ Few (css ++ [d]) ∧ css.length ≤ 1048576 ∧ d.length ≤ 1048576) := ⟨hc, hi, hw, hD, hd, few_with hb hb3, by omega, hb3⟩
  obtain ⟨ac, cc, rfl, -, -, -⟩ := hr.form
  obtain ⟨av, cv, rfl, -, -, -⟩ := hc.form
  obtain ⟨ad, cd, rfl, -, -, -⟩ := hd.form
  have hlc := hc.len
  have hld := hd.len
  clear hr hc hi hw hD hd hb
  go_enter Tryd.func3, Tryd.ntmps3
  go_wp2_with fail
  refine (awake8_any _ (HR.out.2.2.2.1.at HX.out.bel)).mono ?_
  rintro e w1 ⟨rfl, bel1⟩
  have HX1 : Hid (Bx w n (.slice ac css.length cc) css w1) := HX.out.on bel1
  have c0 := HX1.out.c0
  have c1 := HX1.out.c1
  clear bel1 HX
  go_wp2_with fail
  refine (follows_any n _ _ css c w1 HX1.out.rd (HR.out.1.below HX1.out.bel) HR.out.2.1 HR.out.2.2.1 (HR.out.2.2.2.1.at HX1.out.bel)).mono ?_
  rintro e w2 ⟨rfl, bel2⟩
  have HX2 : Hid (Bx w n (.slice ac css.length cc) css w2) := HX1.out.on bel2
  have d0 := HX2.out.c0
  have d1 := HX2.out.c1
  clear bel2 c0 c1 HX1
  have HBl := blocked_any n _ _ css c w2 HX2.out.rd (HR.out.1.below HX2.out.bel)
  rw [shB_shp, shBE_shE] at HBl
  have HBl : Hid (Calls Tryd.prog 8 #[.agg #[.int .i64 n, .slice ac css.length cc], .slice av c.length cv] w2 fun e w' => e = .returned (.tuple #[.bool (shp n css c && blkB css c), .int .i64 (shE (shp n css c))]) ∧ Below w2.heap.size w2 w') := HBl
  go_wp2_with fail
  refine HBl.out.mono ?_
  rintro e w3 ⟨rfl, bel3⟩
  have HX3 : Hid (Bx w n (.slice ac css.length cc) css w3) := HX2.out.on bel3
  have f0 := HX3.out.c0
  have f1 := HX3.out.c1
  clear bel3 d0 d1 HX2 HBl
  go_wp2_with fail
  refine (safe_any n _ _ css c w3 HX3.out.rd (HR.out.1.below HX3.out.bel) HR.out.2.1 HR.out.2.2.1 (HR.out.2.2.2.1.at HX3.out.bel)).mono ?_
  rintro e w4 ⟨rfl, bel4⟩
  have HX4 : Hid (Bx w n (.slice ac css.length cc) css w4) := HX3.out.on bel4
  have g0 := HX4.out.c0
  have g1 := HX4.out.c1
  clear bel4 f0 f1 HX3
  have HBS : Hid (shp n css c = true → blkB css c = true → safB css c = true) := fun h1 h2 => blk_safe h1 h2
  cases hsh : shp n css c
  · have HB : Hid (Below w.heap.size w w4) := HX4.out.bel
    rw [show shE false = 1 from rfl, Bool.false_and, Bool.false_and, Bool.false_and]
    clear hsh
    go_wp2
    go_ret
    exact ⟨rfl, HB.out⟩
  have HS : Hid (shp n css c = true) := hsh
  rw [show shE true = 0 from rfl, Bool.true_and, Bool.true_and, Bool.true_and]
  have hbs : blkB css c = false ∨ (blkB css c = true ∧ safB css c = true) := by
    cases hbk : blkB css c
    · exact .inl rfl
    · exact .inr ⟨rfl, HBS.out hsh hbk⟩
  have HSd : Hid (Calls Tryd.prog 10 #[.slice ad d.length cd] w4 fun e w' => e = .returned (.bool (d.all fmd)) ∧ w' = w4) := sound_any _ d w4 (HR.out.2.2.2.2.1.below HX4.out.bel)
  clear hsh HBS
  generalize hfo : folB css c = fo at *
  have HFo : Hid (folB css c = fo) := hfo
  clear hfo
  generalize blkB css c = bk at *
  generalize safB css c = sf at *
  cases hds : d.all fmd
  · rw [hds] at HSd
    clear hds
    rcases hbs with rfl | ⟨rfl, rfl⟩
    all_goals
      go_wp2_with fail
      refine HSd.out.mono ?_
      rintro e w9 ⟨rfl, hw9⟩
      obtain rfl := hw9.symm
      clear hw9
      go_wp2
      go_ret
      exact ⟨rfl, HX4.out.bel⟩
  have HDs : Hid (d.all fmd = true) := hds
  rw [hds] at HSd
  clear hds
  have HMore : Hid (fo = true → folB (css ++ [d]) c = true ∧ folB css (tid (c ++ d)) = true) := fun h => ⟨fol_more (HFo.out.trans h), fol_long (shp_all HS.out) (HFo.out.trans h)⟩
  have HOwn : Hid (folB (css ++ [d]) d = true) := fol_own css d
  have HW8 : Hid (∀ W, Below w4.heap.size w4 W → Calls Tryd.prog 11 #[.agg #[.int .i64 n, .slice ac css.length cc], .slice ad d.length cd] W fun e w' => ∃ a9 c9, e = .returned (.agg #[.int .i64 (mx n d), .slice a9 (css ++ [d]).length c9]) ∧ Rds w' (.slice a9 (css ++ [d]).length c9) (css ++ [d]) ∧ Below W.heap.size W w') := fun W hW => (with8_any n _ _ css d W (HX4.out.rd.below hW) (HR.out.2.2.2.2.1.below (Below.step HX4.out.bel hW)) HR.out.2.2.2.2.2.2.1 HR.out.2.2.2.2.2.2.2).mono fun e w' hh => by
    obtain ⟨u, he, hr9, hb9⟩ := hh
    obtain ⟨a9, c9, e9, -⟩ := hr9.form
    subst e9
    exact ⟨a9, c9, he, hr9, hb9⟩
  have HFC : Hid (∀ W a9 c9, Below w4.heap.size w4 W → Rds W (.slice a9 (css ++ [d]).length c9) (css ++ [d]) → Calls Tryd.prog 7 #[.agg #[.int .i64 (mx n d), .slice a9 (css ++ [d]).length c9], .slice av c.length cv] W fun e w' => e = .returned (.tuple #[.bool (folB (css ++ [d]) c), .int .i64 0]) ∧ Below W.heap.size W w') := fun W a9 c9 hW hr9 => (follows_any (mx n d) _ _ (css ++ [d]) c W hr9 (HR.out.1.below (Below.step HX4.out.bel hW)) HR.out.2.1 HR.out.2.2.2.2.2.1 (HR.out.2.2.2.1.at (Below.step HX4.out.bel hW))).mono fun e w' h => ⟨by rw [h.1, shp_with HS.out HDs.out]; rfl, h.2⟩
  have HFD : Hid (∀ W a9 c9, Below w4.heap.size w4 W → Rds W (.slice a9 (css ++ [d]).length c9) (css ++ [d]) → Calls Tryd.prog 7 #[.agg #[.int .i64 (mx n d), .slice a9 (css ++ [d]).length c9], .slice ad d.length cd] W fun e w' => e = .returned (.tuple #[.bool true, .int .i64 0]) ∧ Below W.heap.size W w') := fun W a9 c9 hW hr9 => (follows_any (mx n d) _ _ (css ++ [d]) d W hr9 (HR.out.2.2.2.2.1.below (Below.step HX4.out.bel hW)) (all_i64 HDs.out) HR.out.2.2.2.2.2.1 (HR.out.2.2.2.1.at (Below.step HX4.out.bel hW))).mono fun e w' h => ⟨by rw [h.1, shp_own HS.out HDs.out, HOwn.out]; rfl, h.2⟩
  have hlj := tid_len (c ++ d)
  have HJn : Hid (∀ W, Below w4.heap.size w4 W → Calls Tryd.prog 12 #[.slice av c.length cv, .slice ad d.length cd] W fun e w' => ∃ a9 c9, e = .returned (.slice a9 (tid (c ++ d)).length c9) ∧ Rd w' (.slice a9 (tid (c ++ d)).length c9) (tid (c ++ d)) ∧ Below W.heap.size W w') := fun W hW => (join_any sortSaid compactSaid _ _ c d W (HR.out.1.below (Below.step HX4.out.bel hW)) (HR.out.2.2.2.2.1.below (Below.step HX4.out.bel hW))).mono fun e w' hh => by
    obtain ⟨u, he, ho9, hb9⟩ := hh
    obtain ⟨a9, c9, e9⟩ := own_form ho9
    subst e9
    exact ⟨a9, c9, he, ho9.rd (by omega), hb9⟩
  have HFJ : Hid (∀ W a9 c9, Below w4.heap.size w4 W → Rd W (.slice a9 (tid (c ++ d)).length c9) (tid (c ++ d)) → Calls Tryd.prog 7 #[.agg #[.int .i64 n, .slice ac css.length cc], .slice a9 (tid (c ++ d)).length c9] W fun e w' => e = .returned (.tuple #[.bool (folB css (tid (c ++ d))), .int .i64 0]) ∧ Below W.heap.size W w') := fun W a9 c9 hW hr9 => (follows_any n _ _ css (tid (c ++ d)) W (HX4.out.rd.below hW) hr9 (all_i64 (shp_all (shp_long HS.out))) HR.out.2.2.1 (HR.out.2.2.2.1.at (Below.step HX4.out.bel hW))).mono fun e w' h => ⟨by rw [h.1, shp_long HS.out]; rfl, h.2⟩
  have HSt : Hid (∀ W, Below w4.heap.size w4 W → Below w4.heap.size w4 W ∧ W.cell? ⟨w.heap.size, 0, none⟩ = some (.int .i64 n) ∧ W.cell? ⟨w.heap.size, 1, none⟩ = some (.slice ac css.length cc)) := fun W hW => ⟨hW, (HX4.out.on hW).c0, (HX4.out.on hW).c1⟩
  have HBw : Hid (∀ W, Below w4.heap.size w4 W → Below w.heap.size w W) := fun W hW => Below.step HX4.out.bel hW
  generalize (css ++ [d]).length = l1 at *
  generalize (tid (c ++ d)).length = l2 at *
  generalize hm1 : folB (css ++ [d]) c = mo at *
  generalize hm2 : folB css (tid (c ++ d)) = lo at *
  clear hm1 hm2 hlj
  generalize mx n d = nd at *
  have hmo : fo = false ∨ (fo = true ∧ mo = true ∧ lo = true) := by
    cases fo with
    | false => exact .inl rfl
    | true => exact .inr ⟨rfl, HMore.out rfl⟩
  clear HMore HFo
  have hbk2 : (bk = false ∨ (bk = true ∧ sf = true)) := hbs
  clear hbs
  rcases hbk2 with rfl | ⟨rfl, rfl⟩
  all_goals
    go_wp2_with fail
    refine HSd.out.mono ?_
    rintro e w9 ⟨rfl, hw9⟩
    obtain rfl := hw9.symm
    clear hw9
    go_wp2_with fail
    refine (HW8.out _ (Below.refl _ _)).mono ?_
    rintro e w5 ⟨a5, c5, rfl, hr5, hb5⟩
    have H5 : Hid (Rds w5 (.slice a5 l1 c5) (css ++ [d]) ∧ Below w4.heap.size w4 w5) := ⟨hr5, hb5⟩
    clear hr5 hb5
    go_wp2_with fail
    refine (HFC.out w5 a5 c5 H5.out.2 H5.out.1).mono ?_
    rintro e w6 ⟨rfl, hb6⟩
    have H6 : Hid (Below w4.heap.size w4 w6) := Below.step H5.out.2 hb6
    have q0 := (HSt.out w6 H6.out).2.1
    have q1 := (HSt.out w6 H6.out).2.2
    clear hb6 H5 g0 g1
    go_wp2_with fail
    have HS6 : Hid (∀ W, Below w6.heap.size w6 W → Below w6.heap.size w6 W ∧ W.cell? ⟨w.heap.size, 0, none⟩ = some (.int .i64 n) ∧ W.cell? ⟨w.heap.size, 1, none⟩ = some (.slice ac css.length cc)) := fun W hW => ⟨hW, (HSt.out W (Below.step H6.out hW)).2.1, (HSt.out W (Below.step H6.out hW)).2.2⟩
    go_region_held (fun W => Below w6.heap.size w6 W ∧ W.cell? ⟨w.heap.size, 0, none⟩ = some (.int .i64 n) ∧ W.cell? ⟨w.heap.size, 1, none⟩ = some (.slice ac css.length cc)) (first | exact HS6.out _ (Below.refl _ _).drew | exact HS6.out _ B8.out | exact HS6.out _ B7.out) (first
      | (have qq := B7.out; go_at_call 7; refine (HFJ.out _ _ _ (Below.step H6.out B7.out) R7.out).mono ?_; rintro e w8 ⟨rfl, hb8⟩; have B8 : Hid (Below w6.heap.size w6 w8) := Below.step B7.out hb8; clear hb8 qq)
      | (go_at_call 12; refine (HJn.out _ (Below.step H6.out (Below.refl _ _).drew)).mono ?_; rintro e w7 ⟨a7, c7, rfl, hr7, hb7⟩; have R7 : Hid (Rd w7 (.slice a7 l2 c7) (tid (c ++ d))) := hr7; have B7 : Hid (Below w6.heap.size w6 w7) := Below.step (Below.refl _ _).drew hb7; clear hr7 hb7))
    have H8 : Hid (Below w4.heap.size w4 w8) := Below.step H6.out B8.out
    have y0 := (HSt.out w8 H8.out).2.1
    have y1 := (HSt.out w8 H8.out).2.2
    clear q0 q1
    go_wp2_with fail
    refine (HW8.out _ H8.out).mono ?_
    rintro e w10 ⟨a10, c10, rfl, hr10, hb10⟩
    have H10 : Hid (Rds w10 (.slice a10 l1 c10) (css ++ [d]) ∧ Below w4.heap.size w4 w10) := ⟨hr10, Below.step H8.out hb10⟩
    clear hr10 hb10 y0 y1
    go_wp2_with fail
    refine (HFD.out w10 a10 c10 H10.out.2 H10.out.1).mono ?_
    rintro e w11 ⟨rfl, hb11⟩
    have H11 : Hid (Below w.heap.size w w11) := HBw.out _ (Below.step H10.out.2 hb11)
    clear hb11
    rcases hmo with rfl | ⟨rfl, rfl, rfl⟩
    all_goals
      go_wp2
      go_ret
      exact ⟨rfl, H11.out⟩
end rupGrows
end Go.Proofs.YtkinilhapgagcabDoor
