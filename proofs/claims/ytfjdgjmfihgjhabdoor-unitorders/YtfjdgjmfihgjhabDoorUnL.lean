/-
  unit, the statements' helpers: within, shaped.
  KEEP: set on app at below new trans refl start ap kept rd rds mono lt add none own nil put len pos setF setV putL putR other neV same_any
-/
import Derived.Test.YtfjdgjmfihgjhabDoorUnA
set_option linter.unusedSimpArgs false
set_option linter.unusedVariables false
namespace Go.Proofs.YtfjdgjmfihgjhabDoor
open Go Go.RowKit

def ins6 (n l : Int) : Bool := !decide (l = 0) && !decide (n < l) && !decide (l < -n)
theorem fit6 {n l : Int} (h0 : 0 ≤ n) (h1 : n ≤ 1048576) : (fmd l && decide (varOf l ≤ n)) = ins6 n l := by
  unfold varOf ins6
  rcases fmd_cases l with ⟨h, a0, a1, a2⟩ | ⟨h, a0⟩
  · rw [h, Bool.eq_iff_iff]
    by_cases hs : l < 0
    · simp only [hs, Bool.true_and, if_true, decide_eq_true_eq, Bool.and_eq_true, Bool.not_eq_true', decide_eq_false_iff_not]; omega
    · simp only [hs, Bool.true_and, if_true, if_false, decide_eq_true_eq, Bool.and_eq_true, Bool.not_eq_true', decide_eq_false_iff_not]; omega
  · rw [h, Bool.false_and, eq_comm, Bool.eq_false_iff]
    intro h2
    simp only [Bool.and_eq_true, Bool.not_eq_true', decide_eq_false_iff_not] at h2
    omega
theorem fits6 {n : Int} {zs : List Int} (h0 : 0 ≤ n) (h1 : n ≤ 1048576) : fitsP n zs = zs.all (ins6 n) := by
  unfold fitsP
  congr 1
  funext l
  exact fit6 h0 h1
theorem fits_all {zs : List Int} : fitsP 1048576 zs = zs.all fmd := by
  unfold fitsP
  congr 1
  funext l
  cases h : fmd l
  · rfl
  · have := varOf_range l
    simp only [Bool.true_and, decide_eq_true_eq]; omega
set_option maxRecDepth 100000 in
theorem within6_any (v : Value) (zs : List Int) (n : Int) (w : World) (hr : Rd w v zs) (h0 : 0 ≤ n) (h1 : n ≤ 1048576) :
    Calls Tryd.prog 11 #[v, .int .i64 n] w fun e w' => e = .returned (.bool (fitsP n zs)) ∧ w' = w := by
  have hl := hr.len
  obtain ⟨a, c, rfl, hc, hm, hcell⟩ := hr.form
  have HC : Hid (∀ k, k < zs.length → ∃ b off, a = some ⟨b, off, none⟩ ∧ w.cell? ⟨b, off + k, none⟩ = some (.int .i64 (zs.getD k 0))) := hcell
  have HE : Hid (fitsP n zs = zs.all (ins6 n)) := fits6 h0 h1
  have hwn : IntKind.i64.wrap (-n) = -n := by rw [IntKind.wrap_i64]; omega
  clear hcell hr
  go_enter Tryd.func11, Tryd.ntmps11
  go_wp2
  go_loopg [5] zs.length (fun g i wr => ∃ k : Nat, k + g = zs.length ∧ i = .int .i64 k ∧ (zs.take k).all (ins6 n) = true ∧ wr = w)
  case atStart => exact ⟨0, by omega, rfl, by simp, rfl⟩
  case round =>
    obtain ⟨k, hk, rfl, hall, hwr⟩ := hrel
    obtain rfl : w = wr := hwr.symm
    have HA : Hid ((zs.take k).all (ins6 n) = true) := hall
    have HK : Hid (k + gk = zs.length) := hk
    clear hall hwr
    by_cases hlt : k < zs.length
    · obtain ⟨b, off, rfl, hck⟩ := HC.out k hlt
      have HS : Hid ((zs.take (k + 1)).all (ins6 n) = ((zs.take k).all (ins6 n) && ins6 n (zs.getD k 0))) := all_take_getD _ _ _ _ hlt
      have HF : Hid (ins6 n (zs.getD k 0) = false → zs.all (ins6 n) = false) := fun h => all_false_getD hlt h
      have HLT : Hid (k < zs.length) := hlt
      clear hk
      generalize zs.getD k 0 = z at *
      by_cases hz0 : z = 0
      · have HI : Hid (ins6 n z = false) := by show _ = _; unfold ins6; rw [hz0]; rfl
        have hz : (z == 0) = true := by simpa using hz0
        go_wp2
        go_ret
        exact ⟨ret_bool (HE.out.trans (HF.out HI.out)).symm, rfl⟩
      · have hz : (z == 0) = false := by simpa using hz0
        by_cases hz1 : n < z
        · have HI : Hid (ins6 n z = false) := by show _ = _; unfold ins6; simp [hz1]
          go_wp2
          go_ret
          exact ⟨ret_bool (HE.out.trans (HF.out HI.out)).symm, rfl⟩
        · by_cases hz2 : z < -n
          · have HI : Hid (ins6 n z = false) := by show _ = _; unfold ins6; simp [hz2]
            go_wp2
            go_ret
            exact ⟨ret_bool (HE.out.trans (HF.out HI.out)).symm, rfl⟩
          · have HI : Hid (ins6 n z = true) := by show _ = _; unfold ins6; simp [hz1, hz2, hz0]
            go_wp2
            go_roundg (gk - 1)
            case measure => have := HK.out; have := HLT.out; omega
            case rel => exact ⟨k + 1, by have := HK.out; have := HLT.out; omega, by go_num, by rw [HS.out, HA.out, HI.out]; rfl, rfl⟩
    · have HA2 : Hid (zs.all (ins6 n) = true) := by
        have h5 := HA.out
        rw [show k = zs.length by omega, List.take_length] at h5
        exact h5
      go_wp2
      go_ret
      exact ⟨ret_bool (HE.out.trans HA2.out).symm, rfl⟩
set_option maxRecDepth 100000 in
theorem shaped6_any (n : Int) (s : Value) (css : List (List Int)) (w : World) (hr : Rds w s css) :
    Calls Tryd.prog 10 #[.agg #[.int .i64 n, s]] w fun e w' => e = .returned (.bool (frm n css)) ∧ Below w.heap.size w w' := by
  have hl := hr.len
  have HX : Hid (Bx w n s css (w.alloc (.cells #[.int .i64 n, s] 24))) := Bx.new hr _
  obtain ⟨a, c, rfl, h1, h2, -⟩ := hr.form
  have HB : Hid (Below w.heap.size w (w.alloc (.cells #[.int .i64 n, .slice a css.length c] 24))) := below_box _ _
  clear hr
  by_cases hn : n < 0
  · have HE : Hid (frm n css = false) := by show _ = _; unfold frm; rw [decide_eq_false (by omega)]; rfl
    go_enter Tryd.func10, Tryd.ntmps10
    go_wp2
    go_ret
    exact ⟨ret_bool HE.out.symm, HB.out⟩
  · by_cases hn2 : 1048576 < n
    · have HE : Hid (frm n css = false) := by show _ = _; unfold frm; rw [decide_eq_false (by omega)]; rfl
      go_enter Tryd.func10, Tryd.ntmps10
      go_wp2
      go_ret
      exact ⟨ret_bool HE.out.symm, HB.out⟩
    · have HE : Hid (frm n css = css.all (fitsP n)) := by show _ = _; unfold frm; rw [decide_eq_true (by omega)]; rfl
      go_enter Tryd.func10, Tryd.ntmps10
      go_wp2
      generalize w.alloc (.cells #[.int .i64 n, .slice a css.length c] 24) = W0 at *
      go_loopg [3] css.length (fun g i wr => ∃ k : Nat, k + g = css.length ∧ i = .int .i64 k ∧ (css.take k).all (fitsP n) = true ∧ Below W0.heap.size W0 wr)
      case atStart => exact ⟨0, by omega, rfl, by simp, Below.refl _ _⟩
      case round =>
        obtain ⟨k, hk, rfl, hall, hbw⟩ := hrel
        have HA : Hid ((css.take k).all (fitsP n) = true) := hall
        have HK : Hid (k + gk = css.length) := hk
        have HXr : Hid (Bx w n (.slice a css.length c) css wr) := HX.out.on hbw
        have HBw : Hid (Below W0.heap.size W0 wr) := hbw
        have c0 := HXr.out.c0
        have c1 := HXr.out.c1
        clear hall hbw
        by_cases hlt : k < css.length
        · obtain ⟨a', c', e', -, -, hAT⟩ := HXr.out.rd.form
          injection e' with e1 _ e3
          subst e1
          subst e3
          obtain ⟨bb, off, u, rfl, kc, hrd⟩ := hAT k hlt
          have HRd : Hid (∀ W, Below wr.heap.size wr W → Rd W u (css.getD k [])) := fun W hW => hrd.below hW
          obtain ⟨au, cu, rfl, -, -, -⟩ := hrd.form
          have HS : Hid ((css.take (k + 1)).all (fitsP n) = ((css.take k).all (fitsP n) && fitsP n (css.getD k []))) := all_take_getD _ _ _ _ hlt
          have HF : Hid (fitsP n (css.getD k []) = false → css.all (fitsP n) = false) := fun h => all_false_getD hlt h
          have HLT : Hid (k < css.length) := hlt
          have hn0 : 0 ≤ n := by omega
          have hn1 : n ≤ 1048576 := by omega
          have HWi : Hid (∀ W, Below wr.heap.size wr W → Calls Tryd.prog 11 #[.slice au (css.getD k []).length cu, .int .i64 n] W fun e w' => e = .returned (.bool (fitsP n (css.getD k []))) ∧ w' = W) := fun W hW => within6_any _ _ n W (HRd.out W hW) hn0 hn1
          clear hrd hAT hk HRd
          generalize css.getD k [] = ck at *
          cases hfi : fitsP n ck
          · go_upto_region 6 with fail
            go_region_law (go_simp; go_at_call 11; refine (HWi.out _ (by first | exact Below.refl _ _ | exact (Below.refl _ _).drew)).mono ?_; intro e w9 hh; rw [hh.1, hh.2, hfi]; clear hh e w9; dsimp only)
            all_goals
              go_wp2
              go_ret
              exact ⟨ret_bool (HE.out.trans (HF.out hfi)).symm, Below.step (Below.step HB.out HBw.out) (Below.refl _ _).drew⟩
          · go_upto_region 6 with fail
            go_region_law (go_simp; go_at_call 11; refine (HWi.out _ (by first | exact Below.refl _ _ | exact (Below.refl _ _).drew)).mono ?_; intro e w9 hh; rw [hh.1, hh.2, hfi]; clear hh e w9; dsimp only)
            all_goals
              have HBr : Hid (Below W0.heap.size W0 wr.drew) := Below.step HBw.out (Below.refl _ _).drew
              go_wp2
              go_roundg (gk - 1)
              case measure => have := HK.out; have := HLT.out; omega
              case rel => exact ⟨k + 1, by have := HK.out; have := HLT.out; omega, by go_num, by rw [HS.out, HA.out, hfi]; rfl, HBr.out⟩
        · have HA2 : Hid (css.all (fitsP n) = true) := by
            have h5 := HA.out
            rw [show k = css.length by omega, List.take_length] at h5
            exact h5
          go_wp2
          go_ret
          exact ⟨ret_bool (HE.out.trans HA2.out).symm, Below.step HB.out HBw.out⟩
end Go.Proofs.YtfjdgjmfihgjhabDoor
