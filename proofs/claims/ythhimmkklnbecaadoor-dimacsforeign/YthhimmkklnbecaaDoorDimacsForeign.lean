/-
  DimacsForeign, walked.
  KEEP: set on app at below new trans refl start ap kept rd rds mono nil form grown out len row own
-/
import Derived.Test.YthhimmkklnbecaaDoorShaped
import Derived.Test.YthhimmkklnbecaaDoorWr
import Derived.Test.YthhimmkklnbecaaDoorRWr
import Derived.Test.YthhimmkklnbecaaDoorCopy
import Derived.Test.YthhimmkklnbecaaDoorFo3
import Derived.Test.YthhimmkklnbecaaDoorFormAns
import Derived.Deep.RegionWith
import Derived.Deep.CutRange
set_option linter.unusedSimpArgs false
set_option linter.unusedVariables false
namespace Go.Proofs.YthhimmkklnbecaaDoor.dimacsForeign
open Go Go.RowKit Go.Proofs.YthhimmkklnbecaaDoor

theorem ba_at2 {T : List UInt8} {i : Nat} (h : i < (⟨T.toArray⟩ : ByteArray).size) : (⟨T.toArray⟩ : ByteArray)[i] = T.getD i 0 := by
  have hl : i < T.length := by simpa [ByteArray.size] using h
  have e : (⟨T.toArray⟩ : ByteArray)[i] = T[i] := by show T.toArray[i] = _; simp
  rw [e, List.getD_eq_getElem?_getD, List.getElem?_eq_getElem hl]; rfl
theorem fw_len : ∀ f ∈ fwords, f.length ≤ 3 := by decide

set_option maxHeartbeats 3200000 in
set_option maxRecDepth 100000 in
theorem walk (n : Int) (s : Value) (css : List (List Int)) (at' ww : Int) (w : World) (_ : (Lit.int .i64 n).wf = true) (hr : Rds w s css) (hwa : (Lit.int .i64 at').wf = true) (hww : (Lit.int .i64 ww).wf = true) (hb : css.length + (css.map List.length).sum ≤ 1048576) (htab : TensY w) :
    Calls Tryd.prog 5 #[.agg #[.int .i64 n, s], .int .i64 at', .int .i64 ww] w fun e w' => e = .returned (.bool true) ∧ RowKit.Below w.heap.size w w' := by
  have hl := hr.len
  have h8 := rds_each hr
  have HX : Hid (Bx w n s css (w.alloc (.cells #[.int .i64 n, s] 24))) := Bx.new hr _
  obtain ⟨a, c, rfl, hc, hm, _⟩ := hr.form
  have H8 : Hid (∀ z ∈ css, z.length * 8 ≤ 140737488351232) := h8
  have HT0 : Hid (TensY w) := htab
  have HLen : Hid (frm n css = true → (wrF n css).length ≤ 100000000) := fun h => by have := wrF_len n css h (by omega); omega
  have hLc : css.length ≤ 1048576 := by omega
  have hra : -9223372036854775808 ≤ at' ∧ at' ≤ 9223372036854775807 := by have h := hwa; simp [Lit.wf] at h; exact ⟨h.1, h.2⟩
  have hrw : -9223372036854775808 ≤ ww ∧ ww ≤ 9223372036854775807 := by have h := hww; simp [Lit.wf] at h; exact ⟨h.1, h.2⟩
  clear hr htab h8 hb hwa hww
  cases hf : frm n css
  case false =>
    have HS : Hid (∀ W u, Rds W u css → Calls Tryd.prog 14 #[.agg #[.int .i64 n, u]] W fun e w' => e = .returned (.bool false) ∧ Below W.heap.size W w') := fun W u h1 => by rw [← hf]; exact shaped_any n u css W h1
    have c0 := HX.out.c0
    have c1 := HX.out.c1
    go_enter Tryd.func5, Tryd.ntmps5
    go_wp2_with (go_at_call 14; refine (HS.out _ _ HX.out.rd).mono ?_; rintro e w1 ⟨rfl, bel1⟩)
    go_ret
    exact ⟨rfl, (HX.out.on bel1).bel⟩
  have HS : Hid (∀ W u, Rds W u css → Calls Tryd.prog 14 #[.agg #[.int .i64 n, u]] W fun e w' => e = .returned (.bool true) ∧ Below W.heap.size W w') := fun W u h1 => by rw [← hf]; exact shaped_any n u css W h1
  by_cases hneg : at' < 0
  · have c0 := HX.out.c0
    have c1 := HX.out.c1
    go_enter Tryd.func5, Tryd.ntmps5
    go_wp2_with (go_at_call 14; refine (HS.out _ _ HX.out.rd).mono ?_; rintro e w1 ⟨rfl, bel1⟩)
    go_ret
    exact ⟨rfl, (HX.out.on bel1).bel⟩
  obtain ⟨k, rfl⟩ : ∃ k : Nat, at' = (k : Int) := ⟨at'.toNat, by omega⟩
  by_cases hge : css.length ≤ k
  · have c0 := HX.out.c0
    have c1 := HX.out.c1
    have hgi : (css.length : Int) ≤ (k : Int) := by omega
    go_enter Tryd.func5, Tryd.ntmps5
    go_wp2_with (go_at_call 14; refine (HS.out _ _ HX.out.rd).mono ?_; rintro e w1 ⟨rfl, bel1⟩; have k1 := (HX.out.on bel1).c1)
    go_ret
    exact ⟨rfl, (HX.out.on bel1).bel⟩
  have hlt : k < css.length := by omega
  have hXY := fXY n css k hlt
  have hcnt := fX_count n css k hlt
  have hTl := HLen.out hf
  have HW : Hid (∀ W u, Rds W u css → TensY W → Calls Tryd.prog 15 #[.agg #[.int .i64 n, u]] W fun e w' => e = .returned (.tuple #[.string ⟨(wrF n css).toArray⟩, .int .i64 0]) ∧ RowKit.Below W.heap.size W w') := fun W u h1 h2 => by
    have := dimWrite_any n u css W h1 (fun h => by have := HLen.out h; omega) h2
    rw [hf] at this; exact this
  have HRd : Hid (∀ (f : List UInt8), f ∈ fwords → ∀ W : World, Calls Tryd.prog 7 #[.string ⟨(((fX n css k ++ [32]) ++ f) ++ fY css k).toArray⟩] W fun e w' => ∃ ar cr, e = .returned (.tuple #[.agg #[.int .i64 0, .slice ar 0 cr], .int .i64 31, .int .i64 ((k : Int) + 2)]) ∧ RowKit.Below W.heap.size W w') := fun f hf2 W => by
    have h3 := fw_len f hf2
    have hlen : ((fX n css k ++ [32]) ++ f ++ fY css k).length < 4294967281 := by
      have : (wrF n css).length = (fX n css k).length + (fY css k).length := by rw [hXY, List.length_append]
      simp only [List.length_append, List.length_cons, List.length_nil]; omega
    have hdl : (⟨(((fX n css k ++ [32]) ++ f) ++ fY css k).toArray⟩ : ByteArray).data.toList = ((fX n css k ++ [32]) ++ f) ++ fY css k := rfl
    have e2 : ((fX n css k ++ [32]) ++ f) ++ fY css k = fX n css k ++ 32 :: (f ++ fY css k) := by simp
    have h5 := dimRead_any ⟨(((fX n css k ++ [32]) ++ f) ++ fY css k).toArray⟩ W (by rw [hdl]; exact hlen) (fun x _ => x.toNat_lt)
    have h6 : rdF (⟨(((fX n css k ++ [32]) ++ f) ++ fY css k).toArray⟩ : ByteArray).data.toList = ⟨0, [], 31, k + 2⟩ := by rw [hdl, e2]; exact rdF_foreign n css k f hf (by omega) hlt hf2
    rw [h6] at h5
    refine h5.mono ?_
    rintro e w' ⟨s', he, own, bel⟩
    obtain ⟨a', c', hs', _⟩ := (own.rds (by simp) (fun x hx => by cases hx)).form
    exact ⟨a', c', by rw [he, hs']; simp, bel⟩
  have HFo : Hid (∀ W : World, Calls Tryd.prog 17 #[.int .i64 ww] W fun e w' => ∃ f ∈ fwords, e = .returned (.string ⟨f.toArray⟩) ∧ RowKit.Below W.heap.size W w') := fun W => foreign3_any ww hrw.1 hrw.2 W
  have hLe : (wrF n css).length = (fX n css k).length + (fY css k).length := by rw [hXY, List.length_append]
  have hYl : 0 < (fY css k).length := by simp [fY]
  have hcat1 : ∀ W, (Op.stringOp .add ⟨(fX n css k).toArray⟩ ⟨#[32]⟩).run Tryd.prog W = .ok (.string ⟨(fX n css k ++ [32]).toArray⟩) W := cat_run _ [32] _ rfl (by simp; omega)
  have hcat2 : Hid (∀ f ∈ fwords, ∀ W, (Op.stringOp .add ⟨(fX n css k ++ [32]).toArray⟩ ⟨f.toArray⟩).run Tryd.prog W = .ok (.string ⟨((fX n css k ++ [32]) ++ f).toArray⟩) W) := fun f hf2 => cat_run _ _ _ rfl (by have := fw_len f hf2; simp; omega)
  have hcat3 : Hid (∀ f ∈ fwords, ∀ W, (Op.stringOp .add ⟨((fX n css k ++ [32]) ++ f).toArray⟩ ⟨(fY css k).toArray⟩).run Tryd.prog W = .ok (.string ⟨(((fX n css k ++ [32]) ++ f) ++ fY css k).toArray⟩) W) := fun f hf2 => cat_run _ _ _ rfl (by have := fw_len f hf2; simp; omega)
  have hex1 : (⟨(wrF n css).toArray⟩ : ByteArray).extract 0 (fX n css k).length = ⟨(fX n css k).toArray⟩ := by
    rw [ex_list, List.drop_zero, Nat.sub_zero, hXY, List.take_left]
  have hex2 : (⟨(wrF n css).toArray⟩ : ByteArray).extract (fX n css k).length (wrF n css).length = ⟨(fY css k).toArray⟩ := by
    rw [ex_list, hLe, Nat.add_sub_cancel_left, hXY, List.drop_left, List.take_length]
  have HPl : Hid (∀ i, i < (wrF n css).length → (wrF n css).getD i 0 = 10 → (((wrF n css).take i).count 10 = k + 1 ↔ i = (fX n css k).length)) := fun i hi hb => nl_place (Y := bodyOf (css.drop (k + 1))) hXY hcnt hi hb
  have hsz : (⟨(wrF n css).toArray⟩ : ByteArray).size = (wrF n css).length := by simp [ByteArray.size]
  have HX10 : Hid ((wrF n css).getD (fX n css k).length 0 = 10) := by show _ = _; rw [hXY]; simp [fY, List.getD_eq_getElem?_getD]
  have HAll : Hid (∀ f ∈ fwords, ∃ T2 T3 : List UInt8, (∀ W, (Op.stringOp .add ⟨(fX n css k ++ [32]).toArray⟩ ⟨f.toArray⟩).run Tryd.prog W = .ok (.string ⟨T2.toArray⟩) W) ∧ (∀ W, (Op.stringOp .add ⟨T2.toArray⟩ ⟨(fY css k).toArray⟩).run Tryd.prog W = .ok (.string ⟨T3.toArray⟩) W) ∧ ∀ W : World, Calls Tryd.prog 7 #[.string ⟨T3.toArray⟩] W fun e w' => ∃ ar cr, e = .returned (.tuple #[.agg #[.int .i64 0, .slice ar 0 cr], .int .i64 31, .int .i64 ((k : Int) + 2)]) ∧ RowKit.Below W.heap.size W w') := fun f hf2 => ⟨_, _, hcat2.out f hf2, hcat3.out f hf2, HRd.out f hf2⟩
  clear hf hXY hcnt HLen hneg hge hcat2 hcat3 HRd
  generalize wrF n css = T at *
  generalize fX n css k ++ [32] = T1 at *
  generalize fX n css k = X at *
  generalize fY css k = Y at *
  have c0 := HX.out.c0
  have c1 := HX.out.c1
  go_enter Tryd.func5, Tryd.ntmps5
  go_wp2_with fail
  refine (HS.out _ _ HX.out.rd).mono ?_
  rintro e w1 ⟨rfl, bel1⟩
  have HX1 : Hid (Bx w n (.slice a css.length c) css w1) := HX.out.on bel1
  clear HX bel1 c0 c1
  have c0 := HX1.out.c0
  have c1 := HX1.out.c1
  go_wp2_with fail
  refine (copyFormula_any n _ css _ HX1.out.rd).mono ?_
  rintro e w2 ⟨u2, rfl, own2, bel2⟩
  have HX2 : Hid (Bx w n (.slice a css.length c) css w2) := HX1.out.on bel2
  have R2 : Hid (Rds w2 u2 css) := own2.rds hl H8.out
  have T2 : Hid (TensY w2) := HT0.out.below HX2.out.bel
  clear HX1 own2 c0 c1
  go_wp2_with fail
  refine (HW.out w2 u2 R2.out T2.out).mono ?_
  rintro e w3 ⟨rfl, bel3⟩
  have HB3 : Hid (RowKit.Below w.heap.size w w3) := (HX2.out.on bel3).bel
  clear HX2 bel3 R2 T2 HW HS
  go_wp2
  go_loopg [9, 10, 11] T.length (fun g x y i wr => ∃ m : Nat, m + g = T.length ∧ i = .int .i64 m ∧ x = .int .i64 ((T.take m).count 10 : Nat) ∧ y = .int .i64 (if X.length < m then X.length else 0 : Nat) ∧ wr = w3)
  case atStart => exact ⟨0, by omega, rfl, by simp, by simp, rfl⟩
  case round =>
    obtain ⟨m, hm2, rfl, rfl, rfl, rfl⟩ := hrel
    have HM : Hid (m + gk = T.length) := hm2
    by_cases hml : m < T.length
    · have hcl : (T.take m).count 10 ≤ 4294967281 := by
        have := List.count_le_length (a := (10 : UInt8)) (l := T.take m); simp at this; omega
      have HTk : Hid (T.take (m + 1) = T.take m ++ [T.getD m 0]) := take_succ_getD T 0 m hml
      have hmz : m < (⟨T.toArray⟩ : ByteArray).size := by rw [hsz]; exact hml
      have hget := ba_at2 hmz
      have HP := HPl.out m hml
      obtain ⟨y, hy⟩ : ∃ y, y = T.getD m 0 := ⟨_, rfl⟩
      have HY2 : Hid (y = T.getD m 0) := hy
      rw [← hy] at HP HTk hget
      have hyl : y.toNat < 256 := y.toNat_lt
      clear hm2 hy
      generalize hq : (T.take m).count 10 = q at *
      have HQ : Hid ((T.take m).count 10 = q) := hq
      clear hq
      by_cases hb : y = 10
      · have hbi : ((y.toNat : Int) == 10) = true := by rw [hb]; rfl
        have HC2 : Hid ((T.take (m + 1)).count 10 = q + 1) := by show _ = _; rw [HTk.out, List.count_append, HQ.out, hb]; simp
        by_cases hpl : m = X.length
        · have hqk : q = k + 1 := (HP hb).2 hpl
          have hqe : ((q : Int) + 1 == (k : Int) + 2) = true := by rw [beq_iff_eq]; omega
          have HF : Hid ((if X.length < m + 1 then X.length else 0 : Nat) = m) := by show _ = _; rw [if_pos (by omega), hpl]
          clear HP hpl hqk
          go_wp2
          go_roundg (gk - 1)
          case measure => have := HM.out; omega
          case rel => exact ⟨m + 1, by have := HM.out; omega, by go_num, by rw [HC2.out]; simp, by rw [HF.out], rfl⟩
        · have hqn : q ≠ k + 1 := fun e => hpl ((HP hb).1 e)
          have hqe : ((q : Int) + 1 == (k : Int) + 2) = false := beq_eq_false_iff_ne.2 (by omega)
          have HF : Hid ((if X.length < m + 1 then X.length else 0 : Nat) = (if X.length < m then X.length else 0 : Nat)) := by
            show _ = _
            by_cases h : X.length < m
            · rw [if_pos h, if_pos (by omega)]
            · rw [if_neg h, if_neg (by omega)]
          clear HP hpl hqn
          generalize (if X.length < m then X.length else 0 : Nat) = cu at *
          go_wp2
          go_roundg (gk - 1)
          case measure => have := HM.out; omega
          case rel => exact ⟨m + 1, by have := HM.out; omega, by go_num, by rw [HC2.out]; simp, by rw [HF.out], rfl⟩
      · have hbi : ((y.toNat : Int) == 10) = false := beq_eq_false_iff_ne.2 (fun e => hb (UInt8.toNat_inj.1 ((by omega : y.toNat = 10).trans rfl)))
        have HC2 : Hid ((T.take (m + 1)).count 10 = q) := by show _ = _; rw [HTk.out, List.count_append, HQ.out]; simp [hb]
        have hmx : m ≠ X.length := fun e => hb (by rw [HY2.out, e]; exact HX10.out)
        have HF : Hid ((if X.length < m + 1 then X.length else 0 : Nat) = (if X.length < m then X.length else 0 : Nat)) := by
          show _ = _
          by_cases h : X.length < m
          · rw [if_pos h, if_pos (by omega)]
          · rw [if_neg h, if_neg (by omega)]
        clear HP hmx hb
        generalize (if X.length < m then X.length else 0 : Nat) = cu at *
        go_wp2
        go_roundg (gk - 1)
        case measure => have := HM.out; omega
        case rel => exact ⟨m + 1, by have := HM.out; omega, by go_num, by rw [HC2.out], by rw [HF.out], rfl⟩
    · obtain rfl : m = T.length := by omega
      have hcut : (if X.length < T.length then X.length else 0 : Nat) = X.length := if_pos (by omega)
      rw [hcut]
      have hXl : X.length ≤ T.length := by omega
      generalize hq : (T.take T.length).count 10 = q at *
      clear hm2 hcut hq HPl HX10
      have hTz : (⟨T.toArray⟩ : ByteArray).size = T.length := hsz
      have hex3 : (⟨T.toArray⟩ : ByteArray).extract X.length (⟨T.toArray⟩ : ByteArray).size = ⟨Y.toArray⟩ := by rw [hsz]; exact hex2
      generalize X.length = XL at *
      generalize T.length = TL at *
      generalize (⟨T.toArray⟩ : ByteArray) = TB at *
      clear hLe hYl HM hml
      go_upto_region 15 with fail
      go_cut [12, 13, 14] from 55 to 69 (fun t u v wx => ∃ (D : Nat) (ar : Option Addr) (cr : Nat), t = .pointer (some ⟨D, 0, none⟩) ∧ u = .int .i64 31 ∧ v = .int .i64 ((k : Int) + 2) ∧ Hid (Bx2 wx D 24 (.int .i64 0) (.slice ar 0 cr)) ∧ Hid (RowKit.Below w.heap.size w wx))
      case first =>
        have s3 := HB3.out.size
        go_region_with (first
          | (go_at_call 17; refine (HFo.out _).mono ?_; rintro e wf ⟨f, hf, rfl, belf⟩; obtain ⟨T2, T3, hc2, hc3, hRf⟩ := HAll.out f hf; have HRf : Hid (∀ W : World, Calls Tryd.prog 7 #[.string ⟨T3.toArray⟩] W fun e w' => ∃ ar cr, e = .returned (.tuple #[.agg #[.int .i64 0, .slice ar 0 cr], .int .i64 31, .int .i64 ((k : Int) + 2)]) ∧ RowKit.Below W.heap.size W w') := hRf; clear hRf; have HBf : Hid (RowKit.Below w.heap.size w wf) := (by first | exact HB3.out.trans ((Below.step (Below.refl _ _).drew belf).mono s3) | exact HB3.out.trans ((Below.step (Below.step (Below.refl _ _).drew (below_box _ _)) belf).mono s3)); first | (have bD : Hid (Bx2 wf wr.heap.size 24 (.int .i64 0) (.slice none 0 0)) := (Bx2.new wr.drew 24 (.int .i64 0) (.slice none 0 0)).below belf) | skip; clear belf)
          | (go_at_call 7; refine (HRf.out _).mono ?_; rintro e wg ⟨ar, cr, rfl, belg⟩; have HBg : Hid (RowKit.Below w.heap.size w wg) := (by first | exact HBf.out.trans (belg.mono HBf.out.size) | exact HBf.out.trans ((Below.step (below_box _ _) belg).mono HBf.out.size)); first | (have bE := bD.out.below belg; have m0 := bE.c0; have m1 := bE.c1; have n0 := bE.f0; have n1 := bE.f1) | (have bE := (Bx2.new wf 24 (.int .i64 0) (.slice none 0 0)).below belg; have m0 := bE.c0; have m1 := bE.c1; have n0 := bE.f0; have n1 := bE.f1) | skip; clear belg))
        all_goals
          go_wp2_with fail
          go_meet
          first
            | exact ⟨_, ar, cr, rfl, rfl, rfl, (bE.set0 _).set1 _, (HBg.out.setCell (p := ⟨_, 0, none⟩) (by first | exact s3 | exact HBf.out.size) _).setCell (p := ⟨_, 1, none⟩) (by first | exact s3 | exact HBf.out.size) _⟩
            | exact ⟨_, ar, cr, rfl, rfl, rfl, Bx2.new _ _ _ _, HBg.out.alloc HBg.out.size _⟩
      case rest =>
      obtain ⟨D, ar, cr, rfl, rfl, rfl, HD, HBc⟩ := hcut
      have d0 := HD.out.c0
      have d1 := HD.out.c1
      go_wp2
      go_ret
      exact ⟨rfl, HBc.out⟩

end Go.Proofs.YthhimmkklnbecaaDoor.dimacsForeign
