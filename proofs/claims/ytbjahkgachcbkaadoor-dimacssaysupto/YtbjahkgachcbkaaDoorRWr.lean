/-
  depotref03.Write, walked.
-/
import Derived.Test.YtbjahkgachcbkaaDoorFullRow
import Derived.Test.YtbjahkgachcbkaaDoorShape
import Derived.Test.YtbjahkgachcbkaaDoorGrow
import Derived.Handy
import Derived.Deep.RegionHeld
import Derived.Sort.AtCall
import Derived.Deep.RegionWith
import Derived.Deep.CutRange
import Derived.Lib.SmallJoins
set_option linter.unusedSimpArgs false
set_option linter.unusedVariables false
namespace Go.Proofs.YtbjahkgachcbkaaDoor
open Go Go.RowKit Go.Lib Go.Sort

theorem itoa_any (z : Int) (h0 : -9223372036854775808 ≤ z) (h1 : z ≤ 9223372036854775807) (w : World) (htab : TensY w) :
    Calls Tryd.prog 34 #[.int .i64 z] w fun e w' => e = .returned (.string ⟨(Lib.itoa z).toArray⟩) ∧ Below w.heap.size w w' :=
  (Tryd.strconv_Itoa z h0 h1 w htab).mono fun e w' h => by
    obtain ⟨rfl, k, os, rfl⟩ := h
    exact ⟨rfl, Lib.below_grow w.heap.size w (Nat.le_refl _) k os⟩

/-- two texts, one behind the other -/
theorem cat_run (x y z : List UInt8) (hz : z = x ++ y) (h : x.length + y.length ≤ 9223372036854775807) (w : World) : (Op.stringOp .add ⟨x.toArray⟩ ⟨y.toArray⟩).run Tryd.prog w = .ok (.string ⟨z.toArray⟩) w := by
  subst hz
  rw [run_string_add_sum w _ _ (by simp [ByteArray.size]; omega), ByteArray.mk_append_mk]

set_option maxHeartbeats 3200000 in
set_option maxRecDepth 100000 in
theorem rWrite_any (n : Int) (s : Value) (css : List (List Int)) (w : World) (hr : Rds w s css) (hbig : frm n css = true → (wrF n css).length ≤ 1099511627776) (htab : TensY w) :
    Calls Tryd.prog 14 #[.agg #[.int .i64 n, s]] w fun e w' => e = .returned (.tuple #[.string ⟨(if frm n css then wrF n css else []).toArray⟩, .int .i64 (if frm n css then 0 else 1)]) ∧ Below w.heap.size w w' := by
  have hl := hr.len
  have HX : Hid (Bx w n s css (w.alloc (.cells #[.int .i64 n, s] 25))) := Bx.new hr _
  obtain ⟨a, c, rfl, hc, hm, _⟩ := hr.form
  have HB0 : Hid (frm n css = true → (wrF n css).length ≤ 1099511627776) := hbig
  have HT0 : Hid (TensY w) := htab
  clear hr hbig htab
  cases hf : frm n css
  · go_enter Tryd.func14, Tryd.ntmps14
    go_wp2_with fail
    refine (rFormed_any n _ css _ HX.out.rd).mono ?_
    rw [hf]
    rintro e w1 ⟨rfl, bel1⟩
    have HX1 : Hid (Bx w n (.slice a css.length c) css w1) := HX.out.on bel1
    go_wp2
    go_returns
    exact ⟨rfl, HX1.out.bel⟩
  have HF : Hid (frm n css = true) := hf
  have HB : Hid ((wrF n css).length ≤ 1099511627776) := HB0.out hf
  clear HB0
  have hnr : 0 ≤ n ∧ n ≤ 1048576 := by
    have := hf; simp only [frm, Bool.and_eq_true, decide_eq_true_eq] at this; exact this.1
  go_enter Tryd.func14, Tryd.ntmps14
  go_wp2_with fail
  refine (rFormed_any n _ css _ HX.out.rd).mono ?_
  rw [hf]
  rintro e w1 ⟨rfl, bel1⟩
  have HX1 : Hid (Bx w n (.slice a css.length c) css w1) := HX.out.on bel1
  have c0 := HX1.out.c0
  have c1 := HX1.out.c1
  have HT1 : Hid (TensY w1) := HT0.out.below HX1.out.bel
  clear HX bel1 hf
  have HS : Hid (∀ W, Below w1.heap.size w1 W → Below w1.heap.size w1 W ∧ W.cell? ⟨w.heap.size, 0, none⟩ = some (.int .i64 n) ∧ W.cell? ⟨w.heap.size, 1, none⟩ = some (.slice a css.length c)) := fun W h => ⟨h, (HX1.out.on h).c0, (HX1.out.on h).c1⟩
  have HI : Hid (∀ (z : Int), -9223372036854775808 ≤ z → z ≤ 9223372036854775807 → ∀ W, Below w1.heap.size w1 W → Calls Tryd.prog 34 #[.int .i64 z] W fun e w' => e = .returned (.string ⟨(Lib.itoa z).toArray⟩) ∧ Below W.heap.size W w') := fun z h0 h1 W h => itoa_any z h0 h1 W (HT1.out.below h)
  have hni := Lib.itoa_length_le n (by omega) (by omega)
  have hci := Lib.itoa_length_le (css.length : Int) (by omega) (by omega)
  obtain ⟨S1, hS1⟩ : ∃ S, S = [112, 32, 99, 110, 102, 32] ++ Lib.itoa n := ⟨_, rfl⟩
  obtain ⟨S2, hS2⟩ : ∃ S, S = S1 ++ [32] := ⟨_, rfl⟩
  obtain ⟨S3, hS3⟩ : ∃ S, S = S2 ++ Lib.itoa css.length := ⟨_, rfl⟩
  have l1 : S1.length = 6 + (Lib.itoa n).length := by rw [hS1]; simp; omega
  have l2 : S2.length = S1.length + 1 := by rw [hS2]; simp
  have l3 : S3.length = S2.length + (Lib.itoa (css.length : Int)).length := by rw [hS3]; simp
  have k1 := cat_run _ _ _ hS1 (by simp; omega)
  have k2 := cat_run _ _ _ hS2 (by simp; omega)
  have k3 := cat_run _ _ _ hS3 (by omega)
  have k4 := cat_run S3 [10] (headOf n css.length) (by rw [hS3, hS2, hS1]; rfl) (by simp; omega)
  clear hS1 hS2 hS3 l1 l2 l3 hni hci
  go_upto_region 3 with fail
  go_cut [4] from 11 to 21 (fun t wx => t = .string ⟨(headOf n css.length).toArray⟩ ∧ Below w1.heap.size w1 wx)
  case first =>
    go_region_held (fun W' => Below w1.heap.size w1 W' ∧ W'.cell? ⟨w.heap.size, 0, none⟩ = some (.int .i64 n) ∧ W'.cell? ⟨w.heap.size, 1, none⟩ = some (.slice a css.length c)) (first | exact HS.out _ (Below.refl _ _).drew | exact HS.out _ bT | exact HS.out _ bF) (first
      | (go_at_call_has 34 (Value.int IntKind.i64 n); refine (HI.out n (by omega) (by omega) _ (by first | exact bF | exact (Below.refl _ _).drew)).mono ?_; rintro e wT ⟨rfl, belT⟩; have bT : Below w1.heap.size w1 wT := Below.step (by first | exact bF | exact (Below.refl _ _).drew) belT)
      | (go_at_call_has 34 (Value.int IntKind.i64 css.length); refine (HI.out css.length (by omega) (by omega) _ (by first | exact bT | exact (Below.refl _ _).drew)).mono ?_; rintro e wF ⟨rfl, belF⟩; have bF : Below w1.heap.size w1 wF := Below.step (by first | exact bT | exact (Below.refl _ _).drew) belF))
    all_goals
      go_wp2_with fail
      go_meet
      exact ⟨rfl, by first | exact bF | exact bT⟩
  case rest =>
  obtain ⟨rfl, bel2⟩ := hcut
  generalize wc = w2 at *
  clear k1 k2 k3 k4 c0 c1 HS
  go_wp2
  go_loopg [4, 5] css.length (fun g u i wr => ∃ k : Nat, k + g = css.length ∧ i = .int .i64 k ∧ u = .string ⟨(headOf n css.length ++ bodyOf (css.take k)).toArray⟩ ∧ Below w1.heap.size w1 wr)
  case atStart => exact ⟨0, by omega, rfl, by simp [bodyOf], bel2⟩
  case round =>
    clear bel2
    obtain ⟨k, hk, rfl, rfl, bel⟩ := hrel
    have HK : Hid (k + gk = css.length) := hk
    have c1x := (HX1.out.on bel).c1
    by_cases hlt : k < css.length
    · obtain ⟨b, off, uc, rfl, hck1, hrd⟩ := HX1.out.at hlt
      have hck : wr.cell? ⟨b, off + k, none⟩ = some uc := (bel.cell (p := ⟨b, off + k, none⟩) (World.block_lt_of_cell? w1 _ hck1)).trans hck1
      have hP := fun j => Nat.le_trans (wr_pre n css k j hlt) HB.out
      have HM : Hid (headOf n css.length ++ bodyOf (css.take (k + 1)) = ((headOf n css.length ++ bodyOf (css.take k)) ++ textOf (css.getD k [])) ++ [48, 10]) := by show _ = _; rw [bodyOf_more css k hlt]; simp
      have HZ : Hid (∀ j, j < (css.getD k []).length → fmd ((css.getD k []).getD j 0) = true) := fun j hj => by
        have h1 := HF.out
        simp only [frm, Bool.and_eq_true] at h1
        have h2 := List.all_eq_true.1 h1.2 _ (getD_mem' (d := []) hlt)
        have h3 := List.all_eq_true.1 h2 _ (getD_mem' (d := 0) hj)
        simp only [Bool.and_eq_true] at h3
        exact h3.1
      obtain ⟨ac, cc, rfl, hcc, hcm, _⟩ := hrd.form
      have HR : Hid (Rd w1 (.slice ac (css.getD k []).length cc) (css.getD k [])) := hrd
      have HC1 : Hid (w1.cell? ⟨b, off + k, none⟩ = some (.slice ac (css.getD k []).length cc)) := hck1
      clear hk hrd hck1
      have HP : Hid (∀ j, (headOf n css.length ++ bodyOf (css.take k)).length + (textOf ((css.getD k []).take j)).length + 2 ≤ 1099511627776) := fun j => by have := hP j; rw [List.length_append] at this; exact this
      clear hP
      generalize headOf n css.length ++ bodyOf (css.take k) = T at *
      generalize css.getD k [] = zs at *
      have hzl := HR.out.len
      go_wp2
      go_loopg [6, 7] zs.length (fun g u i wq => ∃ j : Nat, j + g = zs.length ∧ i = .int .i64 j ∧ u = .string ⟨(textOf (zs.take j)).toArray⟩ ∧ Below w1.heap.size w1 wq)
      case atStart => exact ⟨0, by omega, rfl, by simp [textOf], bel⟩
      case round =>
        clear bel hck c1x
        obtain ⟨j, hj, rfl, rfl, bel⟩ := hrel
        have HJ : Hid (j + gk = zs.length) := hj
        have hln := HP.out j
        have c1x := (HX1.out.on bel).c1
        have hck : wr.cell? ⟨b, off + k, none⟩ = some (.slice ac zs.length cc) := (bel.cell (p := ⟨b, off + k, none⟩) (World.block_lt_of_cell? w1 _ HC1.out)).trans HC1.out
        by_cases hjt : j < zs.length
        · obtain ⟨a', c', e', _, _, hcell⟩ := (HR.out.below bel).form
          have e3 : a' = ac ∧ c' = cc := by injection e' with q1 q2 q3; exact ⟨q1.symm, q3.symm⟩
          obtain ⟨rfl, rfl⟩ := e3
          obtain ⟨b2, off2, rfl, hcj⟩ := hcell j hjt
          have hfm := fmd_range (HZ.out j hjt)
          have HS : Hid (textOf (zs.take (j + 1)) = (textOf (zs.take j) ++ Lib.itoa (zs.getD j 0)) ++ [32]) := textOf_more zs j hjt
          have hil := Lib.itoa_length_le (zs.getD j 0) (by omega) (by omega)
          clear hj hcell e'
          generalize textOf (zs.take j) = X at *
          generalize zs.getD j 0 = z at *
          obtain ⟨Y, hY⟩ : ∃ Y, Y = X ++ Lib.itoa z := ⟨_, rfl⟩
          have lY : Y.length = X.length + (Lib.itoa z).length := by rw [hY]; simp
          have k1 := cat_run _ _ _ hY (by omega)
          have k2 := cat_run Y [32] (textOf (zs.take (j + 1))) (by rw [hY]; exact HS.out) (by simp; omega)
          clear hY lY HS
          go_wp2_with (go_at_call 34; refine (HI.out z (by omega) (by omega) _ bel).mono ?_; rintro e wI ⟨rfl, belI⟩)
          go_roundg (gk - 1)
          case measure => have := HJ.out; omega
          case rel => exact ⟨j + 1, by have := HJ.out; omega, by go_num, rfl, Below.step bel belI⟩
        · obtain rfl : j = zs.length := by omega
          rw [List.take_length] at hln ⊢
          clear hj
          generalize hXe : textOf zs = X at *
          obtain ⟨Y, hY⟩ : ∃ Y, Y = T ++ X := ⟨_, rfl⟩
          have lY : Y.length = T.length + X.length := by rw [hY]; simp
          have k1 := cat_run _ _ _ hY (by omega)
          have k2 := cat_run Y [48, 10] (headOf n css.length ++ bodyOf (css.take (k + 1))) (by rw [hY]; exact HM.out) (by simp; omega)
          clear hY lY HM hXe
          go_wp2
          go_roundg (css.length - k - 1)
          case measure => have := HK.out; omega
          case rel => exact ⟨k + 1, by have := HK.out; omega, by go_num, rfl, bel⟩
    · obtain rfl : k = css.length := by omega
      rw [List.take_length]
      clear hk
      have HE : Hid (headOf n css.length ++ bodyOf css = wrF n css) := rfl
      rw [HE.out]
      go_wp2
      go_returns
      exact ⟨rfl, HX1.out.bel.trans (bel.mono HX1.out.bel.size)⟩

end Go.Proofs.YtbjahkgachcbkaaDoor
