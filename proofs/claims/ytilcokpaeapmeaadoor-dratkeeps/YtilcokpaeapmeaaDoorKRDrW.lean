/-
  depotref09.Write, walked.
  KEEP: on app start at below new trans refl kept rd mono
-/
import Derived.Test.YtilcokpaeapmeaaDoorJItoaD
import Derived.Deep.RegionHeld
import Derived.Sort.AtCall
import Derived.Deep.RegionWith
import Derived.Deep.CutRange
import Derived.Lib.SmallJoins
set_option linter.unusedSimpArgs false
set_option linter.unusedVariables false
namespace Go.Proofs.YtilcokpaeapmeaaDoor
open Go Go.RowKit Go.Lib Go.Sort

set_option maxHeartbeats 3200000 in
set_option maxRecDepth 100000 in
theorem rDrWrite_any (s : Value) (l : List Stp) (w : World) (hr : RdZ w s l) (hbig : wz l ≤ 1099511627776) (htab : TensY w) :
    Calls Tryd.prog 7 #[s] w fun e w' => e = .returned (.tuple #[.string ⟨(if sndS l then drW l else []).toArray⟩, .int .i64 (if sndS l then 0 else 1)]) ∧ Below w.heap.size w w' := by
  have hl := hr.len
  have HR : Hid (RdZ w s l) := hr
  obtain ⟨a, c, rfl, hc, hm, _⟩ := hr.form
  have HB : Hid (wz l ≤ 1099511627776) := hbig
  have HI : Hid (∀ (z : Int), -9223372036854775808 ≤ z → z ≤ 9223372036854775807 → ∀ W, Below w.heap.size w W → Calls Tryd.prog 34 #[.int .i64 z] W fun e w' => e = .returned (.string ⟨(Lib.itoa z).toArray⟩) ∧ Below W.heap.size W w') := fun z h0 h1 W h => itoa9_any z h0 h1 W (htab.below h)
  obtain ⟨X, hX⟩ : ∃ X, X = (if sndS l = true then drW l else []) := ⟨_, rfl⟩
  obtain ⟨E, hE⟩ : ∃ E : Int, E = (if sndS l = true then 0 else 1) := ⟨_, rfl⟩
  rw [← hX, ← hE]
  have HX0 : Hid (sndS l = false → X = [] ∧ E = 1) := fun h => by rw [hX, hE, h]; exact ⟨rfl, rfl⟩
  have HX1 : Hid (sndS l = true → X = drW l ∧ E = 0) := fun h => by rw [hX, hE, h]; exact ⟨rfl, rfl⟩
  clear hr hbig htab hX hE
  go_enter Tryd.func7, Tryd.ntmps7
  go_wp2
  go_loopg [4, 5] l.length (fun g u i wr => ∃ k : Nat, k + g = l.length ∧ i = .int .i64 k ∧ u = .string ⟨(drW (l.take k)).toArray⟩ ∧ sndS (l.take k) = true ∧ Below w.heap.size w wr)
  case atStart => exact ⟨0, by omega, rfl, rfl, rfl, Below.refl _ _⟩
  case round =>
    obtain ⟨k, hk, rfl, rfl, hsn, bel⟩ := hrel
    have HK : Hid (k + gk = l.length) := hk
    have HSN : Hid (sndS (l.take k) = true) := hsn
    have hs := bel.size
    clear hsn
    by_cases hlt : k < l.length
    · obtain ⟨a', c', e', _, _, hcell⟩ := HR.out.form
      have e3 : a' = a ∧ c' = c := by injection e' with q1 q2 q3; exact ⟨q1.symm, q3.symm⟩
      obtain ⟨rfl, rfl⟩ := e3
      obtain ⟨b, off, uc, rfl, hbl, hd0, hu0, hrd⟩ := hcell k hlt
      have hd := (bel.cell (p := ⟨b, off + k * 2, none⟩) hbl).trans hd0
      have hu := (bel.cell (p := ⟨b, off + k * 2 + 1, none⟩) hbl).trans hu0
      have HS : Hid (sndS (l.take (k + 1)) = (sndS (l.take k) && (l.getD k (false, [])).2.all fmd)) := snd_take_more l k hlt
      have HP0 : Hid (sndS (l.take (k + 1)) = true → ∀ j, ((drW (l.take k) ++ (if (l.getD k (false, [])).1 then [100, 32] else [])) ++ textOf ((l.getD k (false, [])).2.take j)).length + 2 ≤ 1099511627776) := fun h j => Nat.le_trans (wz_pre l k j hlt h) HB.out
      have HM0 : Hid (drW (l.take (k + 1)) = ((drW (l.take k) ++ (if (l.getD k (false, [])).1 then [100, 32] else [])) ++ textOf (l.getD k (false, [])).2) ++ [48, 10]) := by show _ = _; rw [drW_more l k hlt]; simp [stpT]
      obtain ⟨ac, cc, rfl, hcc, hcm, _⟩ := hrd.form
      have HRd : Hid (Rd w (.slice ac (l.getD k (false, [])).2.length cc) (l.getD k (false, [])).2) := hrd
      have HC : Hid (w.cell? ⟨b, off + k * 2 + 1, none⟩ = some (.slice ac (l.getD k (false, [])).2.length cc)) := hu0
      have HNo : Hid ((l.getD k (false, [])).2.all fmd = false → sndS l = false) := fun h => by unfold sndS; exact all_false_getD (d := (false, [])) hlt h
      clear hk hcell e' hrd hd0 hu0
      generalize l.getD k (false, []) = xk at *
      obtain ⟨dd, zs⟩ := xk
      dsimp only at *
      generalize drW (l.take k) = T at *
      have hzl := HRd.out.len
      have HX : Hid (Rd wr (.slice ac zs.length cc) zs) := HRd.out.below bel
      cases hf : zs.all fmd
      · go_wp2_with fail
        refine (rSound_any _ zs _ HX.out).mono ?_
        rw [hf]
        rintro e w1 ⟨rfl, hw1⟩
        obtain rfl := hw1.symm
        obtain ⟨h1, h2⟩ := HX0.out (HNo.out hf)
        clear hf
        go_wp2
        go_returns
        rw [h1, h2]
        exact ⟨rfl, bel⟩
      have HSt : Hid (sndS (l.take (k + 1)) = true) := by show _ = _; rw [HS.out, HSN.out, hf]; rfl
      have HZ : Hid (∀ j, j < zs.length → fmd (zs.getD j 0) = true) := fun j hj => List.all_eq_true.1 hf _ (getD_mem' (d := 0) hj)
      have HPd : Hid (∀ j, ((T ++ (if dd = true then [100, 32] else [])) ++ textOf (zs.take j)).length + 2 ≤ 1099511627776) := HP0.out HSt.out
      clear HP0 HNo
      go_wp2_with fail
      refine (rSound_any _ zs _ HX.out).mono ?_
      rw [hf]
      rintro e w1 ⟨rfl, hw1⟩
      obtain rfl := hw1.symm
      have bel2 := bel
      have hd2 := hd
      clear hf hd hu bel hs HX
      have T2 : ∃ T2, T2 = (T ++ (if dd = true then [100, 32] else [])) := ⟨_, rfl⟩
      obtain ⟨T2, hT2⟩ := T2
      have hT0 : T.length + 4 ≤ 1099511627776 + 2 := by have := HPd.out 0; simp at this; omega
      rw [← hT2] at HPd HM0
      have k0 := cat9_run T [100, 32] (T ++ [100, 32]) rfl (by simp; omega)
      cases dd
      all_goals
        simp only [if_true, if_false, Bool.false_eq_true, List.append_nil] at hT2
        first | (rw [show T ++ [100, 32] = T2 from hT2.symm] at k0) | (clear k0; rw [← hT2])
        clear hT2
        go_wp2
        go_loopg [4, 6] zs.length (fun g u i wq => ∃ j : Nat, j + g = zs.length ∧ i = .int .i64 j ∧ u = .string ⟨(T2 ++ textOf (zs.take j)).toArray⟩ ∧ Below w.heap.size w wq)
        case atStart => exact ⟨0, by omega, rfl, by simp [textOf], bel2⟩
        case round =>
          clear bel2 hd2
          obtain ⟨j, hj, rfl, rfl, bel⟩ := hrel
          have HJ : Hid (j + gk = zs.length) := hj
          have hs := bel.size
          have hln := HPd.out j
          have hu := (bel.cell (p := ⟨b, off + k * 2 + 1, none⟩) hbl).trans HC.out
          by_cases hjt : j < zs.length
          · obtain ⟨a', c', e', _, _, hcell⟩ := (HRd.out.below bel).form
            have e3 : a' = ac ∧ c' = cc := by injection e' with q1 q2 q3; exact ⟨q1.symm, q3.symm⟩
            obtain ⟨rfl, rfl⟩ := e3
            obtain ⟨b2, off2, rfl, hcj⟩ := hcell j hjt
            have hfm := fmd_range (HZ.out j hjt)
            have HS2 : Hid (T2 ++ textOf (zs.take (j + 1)) = ((T2 ++ textOf (zs.take j)) ++ Lib.itoa (zs.getD j 0)) ++ [32]) := by show T2 ++ textOf (zs.take (j + 1)) = _; rw [textOf_more zs j hjt]; simp
            have hil := Lib.itoa_length_le (zs.getD j 0) (by omega) (by omega)
            clear hj hcell e'
            generalize T2 ++ textOf (zs.take j) = X2 at *
            generalize zs.getD j 0 = z at *
            obtain ⟨Y, hY⟩ : ∃ Y, Y = X2 ++ Lib.itoa z := ⟨_, rfl⟩
            have lY : Y.length = X2.length + (Lib.itoa z).length := by rw [hY]; simp
            have k1 := cat9_run _ _ _ hY (by omega)
            have k2 := cat9_run Y [32] (T2 ++ textOf (zs.take (j + 1))) (by rw [hY]; exact HS2.out) (by simp; omega)
            clear hY lY HS2
            go_wp2_with (go_at_call 34; refine (HI.out z (by omega) (by omega) _ bel).mono ?_; rintro e wI ⟨rfl, belI⟩)
            go_roundg (gk - 1)
            case measure => have := HJ.out; omega
            case rel => exact ⟨j + 1, by have := HJ.out; omega, by go_num, rfl, Below.step bel belI⟩
          · obtain rfl : j = zs.length := by omega
            rw [List.take_length] at hln ⊢
            clear hj
            have k2 := cat9_run (T2 ++ textOf zs) [48, 10] (drW (l.take (k + 1))) HM0.out (by simp at hln ⊢; omega)
            generalize T2 ++ textOf zs = X2 at *
            go_wp2
            go_roundg (l.length - k - 1)
            case measure => have := HK.out; omega
            case rel => exact ⟨k + 1, by have := HK.out; omega, by go_num, rfl, HSt.out, bel⟩
    · obtain rfl : k = l.length := by omega
      have HSN2 := HSN.out
      rw [List.take_length] at HSN2 ⊢
      obtain ⟨h1, h2⟩ := HX1.out HSN2
      rw [← h1]
      clear hk
      have HE : Hid (E = 0) := h2
      clear h1 h2
      go_wp2
      go_returns
      rw [HE.out]
      exact ⟨rfl, bel⟩

end Go.Proofs.YtilcokpaeapmeaaDoor
