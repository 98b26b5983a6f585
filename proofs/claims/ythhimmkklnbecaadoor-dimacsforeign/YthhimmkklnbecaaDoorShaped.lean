/-
  depotlaw03.shaped and readsOne, walked.
  KEEP: set on app at below new trans refl start ap kept rd rds mono
-/
import Derived.Test.YthhimmkklnbecaaDoorReadW
import Derived.Test.YthhimmkklnbecaaDoorSames
import Derived.Test.YthhimmkklnbecaaDoorSameF
import Derived.Test.YthhimmkklnbecaaDoorRdBack
set_option linter.unusedSimpArgs false
set_option linter.unusedVariables false
namespace Go.Proofs.YthhimmkklnbecaaDoor
open Go Go.RowKit

theorem fit3 {n l : Int} (h0 : 0 ≤ n) (h1 : n ≤ 1048576) : (fmd l && decide (varOf l ≤ n)) = (!decide (l = 0) && !decide (n < l) && !decide (l < -n)) := by
  unfold varOf
  rcases fmd_cases l with ⟨h, a0, a1, a2⟩ | ⟨h, a0⟩
  · rw [h, Bool.eq_iff_iff]
    by_cases hs : l < 0
    · simp only [hs, Bool.true_and, if_true, decide_eq_true_eq, Bool.and_eq_true, Bool.not_eq_true', decide_eq_false_iff_not]; omega
    · simp only [hs, Bool.true_and, if_true, if_false, decide_eq_true_eq, Bool.and_eq_true, Bool.not_eq_true', decide_eq_false_iff_not]; omega
  · rw [h, Bool.false_and]
    symm
    rw [Bool.eq_false_iff]
    intro hh
    simp only [decide_eq_true_eq, Bool.and_eq_true, Bool.not_eq_true', decide_eq_false_iff_not] at hh
    omega

set_option maxHeartbeats 3200000 in
theorem shaped_any (n : Int) (s : Value) (css : List (List Int)) (w : World) (hr : Rds w s css) :
    Calls Tryd.prog 14 #[.agg #[.int .i64 n, s]] w fun e w' => e = .returned (.bool (frm n css)) ∧ Below w.heap.size w w' := by
  have hl := hr.len
  have HX : Hid (Bx w n s css (w.alloc (.cells #[.int .i64 n, s] 24))) := Bx.new hr _
  have h8 := rds_each hr
  have H8 : Hid (∀ z ∈ css, z.length * 8 ≤ 140737488351232) := h8
  obtain ⟨a, c, rfl, hc, hm, _⟩ := hr.form
  clear hr h8
  cases h0 : decide (n < 0)
  case true =>
    have HE : Hid (frm n css = false) := by unfold frm Hid; simp at h0; simp; omega
    go_enter Tryd.func14, Tryd.ntmps14
    go_wp2
    go_ret
    exact ⟨ret_bool HE.out.symm, below_box _ _⟩
  cases h1 : decide (1048576 < n)
  case true =>
    have HE : Hid (frm n css = false) := by unfold frm Hid; simp at h1; simp; omega
    go_enter Tryd.func14, Tryd.ntmps14
    go_wp2
    go_ret
    exact ⟨ret_bool HE.out.symm, below_box _ _⟩
  have HN : Hid (frm n css = css.all (fitsP n)) := by unfold frm Hid; simp at h0 h1; simp [h0, h1]
  have hn0 : 0 ≤ n := by simpa using h0
  have hn1 : n ≤ 1048576 := by simpa using h1
  go_enter Tryd.func14, Tryd.ntmps14
  go_wp2
  go_loopg [3] css.length (fun g i wr => ∃ k : Nat, k + g = css.length ∧ i = .int .i64 k ∧ (css.take k).all (fitsP n) = true ∧ Hid (Bx w n (.slice a css.length c) css wr))
  case atStart => exact ⟨0, by omega, rfl, by simp, HX⟩
  case round =>
    obtain ⟨k, hk, rfl, hall, HB⟩ := hrel
    have HA : Hid ((css.take k).all (fitsP n) = true) := hall
    have HK : Hid (k + gk = css.length) := hk
    obtain ⟨gO, hgO⟩ : ∃ gO, gO = gk := ⟨gk, rfl⟩
    have HG : Hid (gO = gk) := hgO
    clear hgO
    have c0 := HB.out.c0
    have c1 := HB.out.c1
    clear hall HX
    by_cases hlt : k < css.length
    · obtain ⟨b, off, u, rfl, hck, hu0⟩ := HB.out.at hlt
      have HU : Hid (Rd wr u (css.getD k [])) := hu0
      have HS : Hid ((css.take (k + 1)).all (fitsP n) = ((css.take k).all (fitsP n) && fitsP n (css.getD k []))) := all_take_getD _ css [] k hlt
      have HF : Hid (fitsP n (css.getD k []) = false → css.all (fitsP n) = false) := fun h => all_false_getD hlt h
      have hz8 : (css.getD k []).length * 8 ≤ 140737488351232 := H8.out _ (getD_mem' hlt)
      obtain ⟨_, ua, uc, hu, _⟩ := hu0
      clear hk
      generalize css.getD k [] = z at *
      subst hu
      have HC : Hid (∀ j, j < z.length → ∃ b off, ua = some ⟨b, off, none⟩ ∧ wr.cell? ⟨b, off + j, none⟩ = some (.int .i64 (z.getD j 0))) := by
        obtain ⟨a', c', e, _, _, hcell⟩ := HU.out.form
        injection e with e1 e2 e3
        subst e1; subst e3
        exact hcell
      go_wp2
      go_loopg [4] z.length (fun g i wy => ∃ j : Nat, j + g = z.length ∧ i = .int .i64 j ∧ Hid (fitsP n (z.take j) = true) ∧ wy = wr)
      case atStart => exact ⟨0, by omega, rfl, by show _ = _; simp [fitsP], rfl⟩
      case round =>
        obtain ⟨j, hj, rfl, HA2, rfl⟩ := hrel
        have HJ : Hid (j + gk = z.length) := hj
        by_cases hlj : j < z.length
        · obtain ⟨b2, off2, rfl, hcj⟩ := HC.out j hlj
          have HS2 : Hid (fitsP n (z.take (j + 1)) = (fitsP n (z.take j) && (fmd (z.getD j 0) && decide (varOf (z.getD j 0) ≤ n)))) := all_take_getD _ z 0 j hlj
          have HF2 : Hid ((fmd (z.getD j 0) && decide (varOf (z.getD j 0) ≤ n)) = false → fitsP n z = false) := fun h => all_false_getD (f := fun l => fmd l && decide (varOf l ≤ n)) hlj h
          clear hj
          generalize z.getD j 0 = y at *
          rw [fit3 hn0 hn1] at HS2 HF2
          have HBad : Hid ((!decide (y = 0) && !decide (n < y) && !decide (y < -n)) = false → (frm n css = false)) := fun h => HN.out.trans (HF.out (HF2.out h))
          by_cases y0 : y = 0
          · have HE : Hid (frm n css = false) := HBad.out (by simp [y0])
            go_wp2
            go_ret
            exact ⟨ret_bool HE.out.symm, HB.out.bel⟩
          · by_cases y1 : n < y
            · have HE : Hid (frm n css = false) := HBad.out (by simp [y1])
              go_wp2
              go_ret
              exact ⟨ret_bool HE.out.symm, HB.out.bel⟩
            · by_cases y2 : y < -n
              · have HE : Hid (frm n css = false) := HBad.out (by simp [y2])
                go_wp2
                go_ret
                exact ⟨ret_bool HE.out.symm, HB.out.bel⟩
              · have HE : Hid (fitsP n (z.take (j + 1)) = true) := by show _ = _; rw [HS2.out, HA2.out]; simp [y0, y1, y2]
                go_wp2
                go_roundg (gk - 1)
                case measure => have := HJ.out; omega
                case rel => exact ⟨j + 1, by have := HJ.out; omega, by go_num, HE, rfl⟩
        · obtain rfl : j = z.length := by omega
          have HE : Hid (fitsP n z = true) := by have := HA2.out; rw [List.take_length] at this; exact this
          clear hj
          go_wp2
          go_roundg (gO - 1)
          case measure => have := HK.out; have := HG.out; omega
          case rel => exact ⟨k + 1, by have := HK.out; have := HG.out; omega, by go_num, by rw [HS.out, HA.out, HE.out]; rfl, HB⟩
    · obtain rfl : k = css.length := by omega
      have HE : Hid (css.all (fitsP n) = true) := by have := HA.out; rw [List.take_length] at this; exact this
      clear hk
      go_wp2
      go_ret
      exact ⟨ret_bool (HN.out.trans HE.out).symm, HB.out.bel⟩

theorem one_read : rdF [112, 32, 99, 110, 102, 32, 50, 32, 49, 10, 49, 32, 45, 50, 32, 48, 10] = ⟨2, [[1, -2]], 0, 0⟩ := by
  have h := rdF_wrF 2 [[1, -2]] (by decide) (by decide)
  have e : wrF 2 [[1, -2]] = [112, 32, 99, 110, 102, 32, 50, 32, 49, 10, 49, 32, 45, 50, 32, 48, 10] := by decide +kernel
  rw [e] at h; exact h

theorem readsOne_any (w : World) :
    Calls Tryd.prog 10 #[] w fun e w' => e = .returned (.bool true) ∧ Below w.heap.size w w' := by
  go_enter Tryd.func10, Tryd.ntmps10
  go_wp2_with fail
  refine (dimRead_any ⟨#[112, 32, 99, 110, 102, 32, 50, 32, 49, 10, 49, 32, 45, 50, 32, 48, 10]⟩ w (by decide) (fun x _ => x.toNat_lt)).mono ?_
  rw [show (⟨#[112, 32, 99, 110, 102, 32, 50, 32, 49, 10, 49, 32, 45, 50, 32, 48, 10]⟩ : ByteArray).data.toList = [112, 32, 99, 110, 102, 32, 50, 32, 49, 10, 49, 32, 45, 50, 32, 48, 10] from rfl, one_read]
  rintro e w1 ⟨s1, rfl, own1, bel1⟩
  simp only at own1 ⊢
  have R1 : Hid (Rds w1 s1 [[1, -2]]) := own1.rds (by simp) (by simp)
  have HX : Hid (Bx w1 2 s1 [[1, -2]] (w1.alloc (.cells #[.int .i64 2, s1] 24))) := Bx.new R1.out _
  have HB1 : Hid (Below w.heap.size w w1) := bel1
  obtain ⟨a, c, rfl, hc, hm, hcell⟩ := R1.out.form
  obtain ⟨b, off, u, rfl, hck, hu0⟩ := hcell 0 (by simp)
  have hck2 := (below_box w1 (.cells #[.int .i64 2, .slice (some ⟨b, off, none⟩) [[1, -2]].length c] 24)).cell (p := ⟨b, off + 0, none⟩) (World.block_lt_of_cell? w1 _ hck)
  rw [hck] at hck2
  have HU : Hid (Rd ((w1.alloc (.cells #[.int .i64 2, .slice (some ⟨b, off, none⟩) 1 c] 24)).alloc (.cells #[.int .i64 1, .int .i64 (-2)] 3)) u [1, -2]) := (hu0.below (below_box _ _)).below (below_box _ _)
  have HV : Hid (Rd ((w1.alloc (.cells #[.int .i64 2, .slice (some ⟨b, off, none⟩) 1 c] 24)).alloc (.cells #[.int .i64 1, .int .i64 (-2)] 3)) (.slice (some ⟨w1.heap.size + 1, 0, none⟩) 2 2) [1, -2]) := by
    have := World.ownsRow_lit (e := 3) (size := 1) (base := 0) (w1.alloc (.cells #[.int .i64 2, .slice (some ⟨b, off, none⟩) 1 c] 24)) #[.int .i64 1, .int .i64 (-2)] 2 (Nat.zero_le _) (by unfold maxLen; omega) rfl
    rw [World.size_alloc] at this
    exact Own.rd (base := 0) (zs := [1, -2]) this (by simp)
  have HB2 : Hid (Below w1.heap.size w1 ((w1.alloc (.cells #[.int .i64 2, .slice (some ⟨b, off, none⟩) 1 c] 24)).alloc (.cells #[.int .i64 1, .int .i64 (-2)] 3))) := (below_box _ _).alloc (by rw [World.size_alloc]; omega) _
  have c0 := HX.out.c0
  have c1 := HX.out.c1
  clear own1 bel1 hcell hu0 hck R1 HX
  simp only [List.length_cons, List.length_nil, Nat.zero_add, Nat.add_zero] at hck2 c0 c1 ⊢
  go_wp2_with fail
  generalize (w1.alloc (.cells #[.int .i64 2, .slice (some ⟨b, off, none⟩) 1 c] 24)).alloc (.cells #[.int .i64 1, .int .i64 (-2)] 3) = W2 at *
  refine (sameInts_any _ _ [1, -2] [1, -2] W2 HU.out HV.out).mono ?_
  rintro e w3 ⟨rfl, bel3⟩
  have HB3 : Hid (Below w.heap.size w w3) := (HB1.out.trans (HB2.out.mono HB1.out.size)).trans (bel3.mono (Nat.le_trans HB1.out.size HB2.out.size))
  clear bel3 hck2 c0 c1
  go_wp2
  go_ret
  exact ⟨rfl, HB3.out⟩

end Go.Proofs.YthhimmkklnbecaaDoor
