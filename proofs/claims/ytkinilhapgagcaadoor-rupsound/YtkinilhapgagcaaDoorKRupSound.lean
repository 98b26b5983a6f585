/-
  RupSound: the walk.
  KEEP: set on app at below new trans refl start ap kept rd rds mono lt add none own nil put len pos setF setV putL putR other neV same_any walk
-/
import Derived.Test.YtkinilhapgagcaaDoorKRpX
import Derived.Test.YtkinilhapgagcaaDoorJRpF
import Derived.Test.YtkinilhapgagcaaDoorJModW
import Derived.Test.YtkinilhapgagcaaDoorKCopy
import Derived.Deep.RegionHeld
set_option linter.unusedSimpArgs false
set_option linter.unusedVariables false
namespace Go.Proofs.YtkinilhapgagcaaDoor
open Go Go.RowKit
namespace rupSound
set_option maxRecDepth 100000 in
set_option maxHeartbeats 4000000 in
theorem walk (n : Int) (s : Value) (css : List (List Int)) (vc : Value) (c : List Int) (w : World) (_ : (Lit.int .i64 n).wf = true) (hr : Rds w s css) (hc : Rd w vc c) (hi : ∀ x ∈ c, i64 x) (hb : css.length + (css.map List.length).sum ≤ 1048576) (hb2 : c.length ≤ 1048576) (hT : Tens w ∧ Deb w) :
    Calls Tryd.prog 6 #[.agg #[.int .i64 n, s], vc] w fun e w' => e = .returned (.bool true) ∧ Below w.heap.size w w' := by
  have hw : Few css := Few.of (by omega) (by unfold lsum; omega)
  have hlr := hr.len
  have H8 : Hid (css.length * 24 ≤ 140737488351232 ∧ ∀ z ∈ css, z.length * 8 ≤ 140737488351232) := ⟨hlr, rds_each hr⟩
  have HX : Hid (Bx w n s css (w.alloc (.cells #[.int .i64 n, s] 24))) := Bx.new hr _
  have HR : Hid (Rd w vc c ∧ (∀ x ∈ c, i64 x) ∧ Few css ∧ Deb w ∧ Tens w ∧ css.length ≤ 1048576 ∧ c.length ≤ 1048576) := ⟨hc, hi, hw, hT.2, hT.1, by omega, hb2⟩
  obtain ⟨ac, cc, rfl, -, -, -⟩ := hr.form
  obtain ⟨av, cv, rfl, -, -, -⟩ := hc.form
  clear hr hc hi hw hT hb hlr
  go_enter Tryd.func6, Tryd.ntmps6
  go_wp2_with fail
  refine (awake8_any _ (HR.out.2.2.2.1.at HX.out.bel)).mono ?_
  rintro e w1 ⟨rfl, bel1⟩
  have HX1 : Hid (Bx w n (.slice ac css.length cc) css w1) := HX.out.on bel1
  have c0 := HX1.out.c0
  have c1 := HX1.out.c1
  clear bel1 HX
  go_wp2_with fail
  refine (kind_any n _ _ css c w1 HX1.out.rd (HR.out.1.below HX1.out.bel) HR.out.2.1 HR.out.2.2.1 (HR.out.2.2.2.1.at HX1.out.bel)).mono ?_
  rintro e w2 ⟨rfl, bel2⟩
  have HX2 : Hid (Bx w n (.slice ac css.length cc) css w2) := HX1.out.on bel2
  have d0 := HX2.out.c0
  have d1 := HX2.out.c1
  clear bel2 c0 c1 HX1
  cases hsh : shp n css c
  · rw [kn8_no hsh, show shE false = 1 from rfl]
    have HFm : Hid (Calls Tryd.prog 15 #[.agg #[.int .i64 n, .slice ac css.length cc]] w2 fun e w' => e = .returned (.bool (frm n css)) ∧ Below w2.heap.size w2 w') := cnfFormed_any n _ css w2 HX2.out.rd
    have HSd : Hid (∀ W, Below w2.heap.size w2 W → Calls Tryd.prog 16 #[.slice av c.length cv] W fun e w' => e = .returned (.bool (c.all fmd)) ∧ w' = W) := fun W hW => sound_any _ c W (HR.out.1.below (Below.step HX2.out.bel hW))
    have hcase : frm n css = false ∨ (frm n css = true ∧ c.all fmd = false) := by
      unfold shp at hsh
      cases e : frm n css
      · exact .inl rfl
      · rw [e, Bool.true_and] at hsh; exact .inr ⟨rfl, hsh⟩
    clear hsh
    generalize frm n css = fr at *
    generalize c.all fmd = so at *
    rcases hcase with rfl | ⟨rfl, rfl⟩
    · go_wp2_with fail
      refine HFm.out.mono ?_
      rintro e w3 ⟨rfl, bel3⟩
      have HB : Hid (Below w.heap.size w w3) := Below.step HX2.out.bel bel3
      clear bel3
      go_wp2
      go_ret
      exact ⟨rfl, HB.out⟩
    · go_wp2_with fail
      refine HFm.out.mono ?_
      rintro e w3 ⟨rfl, bel3⟩
      have HB : Hid (Below w2.heap.size w2 w3) := bel3
      clear bel3
      go_wp2_with fail
      refine (HSd.out _ HB.out).mono ?_
      rintro e w9 ⟨rfl, hw9⟩
      obtain rfl := hw9.symm
      clear hw9
      go_wp2
      go_ret
      exact ⟨rfl, Below.step HX2.out.bel HB.out⟩
  have HS : Hid (shp n css c = true) := hsh
  rw [kn8_yes hsh, show shE true = 0 from rfl]
  have hkc := knd_cases css c
  have HSo : Hid (¬ 16 < mx n c → (kndI css c = 1 ∨ kndI css c = 2) → cntE (mx n c) css = 0 ∧ cntE (mx n c) (css ++ [c]) = 0 ∧ (0 < (modF (mx n c) css).length ↔ 0 < (modF (mx n c) (css ++ [c])).length) ∧ (kndI css c = 1 → (modF (mx n c) (css ++ [c])).length = (modF (mx n c) css).length ∧ entB (mx n c) css c = true ∧ entE (mx n c) css c = 0)) := fun h1 h2 => sound8 hsh h1 h2
  clear hsh
  generalize kndI css c = kd at *
  have HW8 : Hid (Calls Tryd.prog 17 #[.agg #[.int .i64 n, .slice ac css.length cc], .slice av c.length cv] w2 fun e w' => ∃ a9 c9, e = .returned (.agg #[.int .i64 (mx n c), .slice a9 (css ++ [c]).length c9]) ∧ Rds w' (.slice a9 (css ++ [c]).length c9) (css ++ [c]) ∧ Below w2.heap.size w2 w') := (with8_any n _ _ css c w2 HX2.out.rd (HR.out.1.below HX2.out.bel) HR.out.2.2.2.2.2.1 HR.out.2.2.2.2.2.2).mono fun e w' hh => by
    obtain ⟨u, he, hr9, hb9⟩ := hh
    obtain ⟨a9, c9, e9, -⟩ := hr9.form
    subst e9
    exact ⟨a9, c9, he, hr9, hb9⟩
  generalize hl1 : (css ++ [c]).length = l1 at *
  clear hl1
  have hmr : -9223372036854775808 ≤ mx n c ∧ mx n c ≤ 9223372036854775807 := by
    obtain ⟨q0, q1, -⟩ := shp_frms HS.out
    unfold frm at q1
    rw [Bool.and_eq_true, decide_eq_true_eq] at q1
    omega
  obtain ⟨V, hV⟩ : ∃ V, mx n c = V := ⟨_, rfl⟩
  rw [hV] at HSo HW8 hmr
  clear hV
  go_wp2_with fail
  refine HW8.out.mono ?_
  rintro e w3 ⟨a3, c3, rfl, hr3, bel3⟩
  have HR3 : Hid (Rds w3 (.slice a3 l1 c3) (css ++ [c])) := hr3
  have HX3 : Hid (Bx w n (.slice ac css.length cc) css w3) := HX2.out.on bel3
  clear hr3 bel3 HW8 d0 d1 HX2
  have HX4 : Hid (Bx w n (.slice ac css.length cc) css (w3.alloc (.cells #[.int .i64 V, .slice a3 l1 c3] 24))) := HX3.out.on (below_box _ _)
  have HG4 : Hid (Bx2 (w3.alloc (.cells #[.int .i64 V, .slice a3 l1 c3] 24)) w3.heap.size 24 (.int .i64 V) (.slice a3 l1 c3)) := Bx2.new _ _ _ _
  have HR4 : Hid (Rds (w3.alloc (.cells #[.int .i64 V, .slice a3 l1 c3] 24)) (.slice a3 l1 c3) (css ++ [c])) := HR3.out.below (below_box _ _)
  clear HR3 HX3
  by_cases h16 : 16 < V
  · have hd16 : decide (16 < V) = true := decide_eq_true h16
    rcases hkc with rfl | rfl | rfl
    all_goals
      go_wp2
      go_ret
      exact ⟨rfl, HX4.out.bel⟩
  have hd16 : decide (16 < V) = false := decide_eq_false h16
  rcases hkc with rfl | hkc
  · go_wp2
    go_ret
    exact ⟨rfl, HX4.out.bel⟩
  have hk0 : (kd == 0) = false := by rcases hkc with rfl | rfl <;> rfl
  obtain ⟨so1, so2, so3, so4⟩ := HSo.out (by omega) hkc
  have HE : Hid (kd = 1 → (modF V (css ++ [c])).length = (modF V css).length ∧ entB V css c = true ∧ entE V css c = 0) := so4
  have HCo : Hid (∀ W, Below w.heap.size w W → Rds W (.slice ac css.length cc) css → Calls Tryd.prog 18 #[.agg #[.int .i64 n, .slice ac css.length cc]] W fun e w' => ∃ a9 c9, e = .returned (.agg #[.int .i64 n, .slice a9 css.length c9]) ∧ Rds w' (.slice a9 css.length c9) css ∧ Below W.heap.size W w') := fun W hW hr9 => (copyFormula_any n _ css W hr9).mono fun e w' hh => by
    obtain ⟨u, he, ho9, hb9⟩ := hh
    have hr8 := ho9.rds H8.out.1 H8.out.2
    obtain ⟨a9, c9, e9, -⟩ := hr8.form
    subst e9
    exact ⟨a9, c9, he, hr8, hb9⟩
  have HC1 : Hid (∀ W u, Below w.heap.size w W → Rds W u css → Calls Tryd.prog 19 #[.agg #[.int .i64 V, u]] W fun e w' => e = .returned (.tuple #[.int .i64 (modF V css).length, .int .i64 0]) ∧ Below W.heap.size W w') := fun W u hW hr9 => (cnfCount_any V u css W hr9 (HR.out.2.2.2.2.1.below hW)).mono fun e w' h => ⟨by rw [h.1, so1], h.2⟩
  have HC2 : Hid (∀ W u, Below w.heap.size w W → Rds W u (css ++ [c]) → Calls Tryd.prog 19 #[.agg #[.int .i64 V, u]] W fun e w' => e = .returned (.tuple #[.int .i64 (modF V (css ++ [c])).length, .int .i64 0]) ∧ Below W.heap.size W w') := fun W u hW hr9 => (cnfCount_any V u (css ++ [c]) W hr9 (HR.out.2.2.2.2.1.below hW)).mono fun e w' h => ⟨by rw [h.1, so2], h.2⟩
  have HEn : Hid (∀ W u, Below w.heap.size w W → Rds W u css → Calls Tryd.prog 20 #[.agg #[.int .i64 V, u], .slice av c.length cv] W fun e w' => e = .returned (.tuple #[.bool (entB V css c), .int .i64 (entE V css c)]) ∧ Below W.heap.size W w') := fun W u hW hr9 => cnfEntails_any V u _ css c W hr9 (HR.out.1.below hW) (HR.out.2.2.2.2.1.below hW)
  clear so1 so2 so4 HSo HR HS
  have hm1 := modF_len V css
  have hm2 := modF_len V (css ++ [c])
  generalize (modF V css).length = m1 at *
  generalize (modF V (css ++ [c])).length = m2 at *
  generalize entB V css c = eb at *
  generalize entE V css c = ee at *
  have hs2 := HX4.out.bel.size
  have k0 := HX4.out.c0
  have k1 := HX4.out.c1
  have g0 := HG4.out.c0
  have g1 := HG4.out.c1
  go_wp2_with fail
  refine (HCo.out _ HX4.out.bel HX4.out.rd).mono ?_
  rintro e w5 ⟨a5, c5, rfl, hr5, bel5⟩
  have hs5 : w3.heap.size < w5.heap.size := by have q1 := HG4.out.lt; have q2 := bel5.size; omega
  have HG5b : Hid (Bx2 w5 w3.heap.size 24 (.int .i64 V) (.slice a3 l1 c3)) := HG4.out.below bel5
  have HG5 : Hid (Bx2 (w5.alloc (.cells #[.int .i64 n, .slice a5 css.length c5] 24)) w3.heap.size 24 (.int .i64 V) (.slice a3 l1 c3)) := (HG4.out.below bel5).below (below_box _ _)
  have HW5 : Hid (Bx2 (w5.alloc (.cells #[.int .i64 n, .slice a5 css.length c5] 24)) w5.heap.size 24 (.int .i64 n) (.slice a5 css.length c5)) := Bx2.new _ _ _ _
  have HB5 : Hid (Below w5.heap.size w5 (w5.alloc (.cells #[.int .i64 V, .slice a5 css.length c5] 24))) := below_box _ _
  have HR5 : Hid (Rds w5 (.slice a5 css.length c5) css ∧ Rds w5 (.slice a3 l1 c3) (css ++ [c]) ∧ Below w.heap.size w w5) := ⟨hr5, HR4.out.below bel5, Below.step HX4.out.bel bel5⟩
  have p0 := HG5.out.c0
  have pf := HW5.out.f0
  have p1 := HW5.out.c0
  clear hr5 bel5 k0 k1 g0 g1 HX4 HG4 HR4
  have HG6 : Hid (Bx2 (w5.alloc (.cells #[.int .i64 V, .slice a5 css.length c5] 24)) w3.heap.size 24 (.int .i64 V) (.slice a3 l1 c3)) := HG5b.out.below (below_box _ _)
  have HW6 : Hid (Bx2 (w5.alloc (.cells #[.int .i64 V, .slice a5 css.length c5] 24)) w5.heap.size 24 (.int .i64 V) (.slice a5 css.length c5)) := Bx2.new _ _ _ _
  have q0 := HW6.out.c0
  have q1 := HW6.out.c1
  go_wp2_with fail
  refine (HC1.out _ _ (Below.step HR5.out.2.2 HB5.out) (HR5.out.1.below HB5.out)).mono ?_
  rintro e w7 ⟨rfl, bel7⟩
  have HG7 : Hid (Bx2 w7 w3.heap.size 24 (.int .i64 V) (.slice a3 l1 c3)) := HG6.out.below bel7
  have HW7 : Hid (Bx2 w7 w5.heap.size 24 (.int .i64 V) (.slice a5 css.length c5)) := HW6.out.below bel7
  have HB7 : Hid (Below w5.heap.size w5 w7) := Below.step HB5.out bel7
  have r0 := HG7.out.c0
  have r1 := HG7.out.c1
  clear p0 pf p1 q0 q1 bel7 HG6 HW6 HG5 HW5 HB5
  go_wp2_with fail
  refine (HC2.out w7 _ (Below.step HR5.out.2.2 HB7.out) (HR5.out.2.1.below HB7.out)).mono ?_
  rintro e w8 ⟨rfl, bel8⟩
  have HW8 : Hid (Bx2 w8 w5.heap.size 24 (.int .i64 V) (.slice a5 css.length c5)) := HW7.out.below bel8
  have HB8 : Hid (Below w5.heap.size w5 w8) := Below.step HB7.out bel8
  have t0 := HW8.out.c0
  have t1 := HW8.out.c1
  clear r0 r1 bel8 HG7 HW7 HB7
  have hz1 : decide ((0 : Int) < (m1 : Int)) = decide ((0 : Int) < (m2 : Int)) := by
    by_cases h : 0 < m1
    · rw [decide_eq_true (by omega), decide_eq_true (by have := so3.1 h; omega)]
    · rw [decide_eq_false (by omega), decide_eq_false (by have := fun h2 => h (so3.2 h2); omega)]
  rcases hkc with rfl | rfl
  · obtain ⟨he1, rfl, rfl⟩ := HE.out rfl
    obtain rfl : m2 = m1 := he1
    go_wp2_with fail
    refine (HEn.out w8 _ (Below.step HR5.out.2.2 HB8.out) (HR5.out.1.below HB8.out)).mono ?_
    rintro e w9 ⟨rfl, bel9⟩
    have HB9 : Hid (Below w.heap.size w w9) := Below.step (Below.step HR5.out.2.2 HB8.out) bel9
    clear bel9
    have hmm : ((m2 : Int) == m2) = true := by simp
    go_wp2
    go_ret
    exact ⟨rfl, HB9.out⟩
  · have hz2 : ∃ b, decide ((0 : Int) < (m1 : Int)) = b ∧ decide ((0 : Int) < (m2 : Int)) = b := ⟨_, hz1, rfl⟩
    obtain ⟨bz, hb1, hb2⟩ := hz2
    go_wp2
    go_ret
    exact ⟨rfl, Below.step HR5.out.2.2 HB8.out⟩
end rupSound
end Go.Proofs.YtkinilhapgagcaaDoor
