/-
  The document's Under, walked.
-/
import Derived.Test.YtbnnoajpmmbpbaaUnder
import Derived.Test.YtbnnoajpmmbpbaaRefT
set_option linter.unusedSimpArgs false
set_option linter.unusedVariables false
namespace Go.Proofs.Ytbnnoajpmmbpbaa
open Go.RowKit

set_option maxHeartbeats 1600000 in
theorem rUnder_any (n : Int) (s vp : Value) (css : List (List Int)) (part : List Int) (w : World) (hr : Rds w s css) (hp : Rd w vp part) :
    Calls Try.prog 17 #[.agg #[.int .i64 n, s], vp] w fun e w' => ∃ s', e = .returned (.tuple #[.agg #[.int .i64 (unF n css part).1, s'], .int .i64 (unF n css part).2.2]) ∧ OwnF w.heap.size w' s' (unF n css part).2.1 ∧ Below w.heap.size w w' := by
  have HX : Hid (En w n s css ((w.alloc (.cells #[.int .i64 n, s] 24)).alloc (.cells #[.int .i64 0, .slice none 0 0] 24))) := En.new hr
  have HP : Hid (Rd ((w.alloc (.cells #[.int .i64 n, s] 24)).alloc (.cells #[.int .i64 0, .slice none 0 0] 24)) vp part) := (hp.below (below_box _ _)).below (below_box _ _)
  clear hr hp
  cases hf : frm n css
  case false =>
    have HU : Hid (unF n css part = (0, [], 1)) := by unfold unF Hid; rw [hf]; rfl
    go_enter Try.func17, Try.ntmps17
    go_wp2_with fail
    generalize (w.alloc (.cells #[.int .i64 n, s] 24)).alloc (.cells #[.int .i64 0, .slice none 0 0] 24) = W0 at *
    refine (rFormed_any n s css _ HX.out.bx.rd).mono ?_
    rw [hf]
    rintro e w1 ⟨rfl, bel1⟩
    have HX1 : Hid (En w n s css w1) := HX.out.on bel1
    have a0 := HX1.out.ans.c0
    have a1 := HX1.out.ans.c1
    have f0 := HX1.out.ans.f0
    have f1 := HX1.out.ans.f1
    clear HX HP bel1
    go_wp2
    try simp only [Exit.inBlock, Exit.then]
    refine bodyPost_ret (ret_form rfl rfl ((HX1.out.ans.set0 _).set1 _)) rfl ?_
    exact ⟨_, by rw [HU.out]; rfl, by rw [HU.out]; exact OwnF.nil _ _, below_set (below_set HX1.out.bx.bel (by omega) _ _) (by omega) _ _⟩
  cases hg : fitsP n part
  case false =>
    have HU : Hid (unF n css part = (0, [], 1)) := by unfold unF Hid; rw [hf, hg]; rfl
    go_enter Try.func17, Try.ntmps17
    go_wp2_with fail
    generalize (w.alloc (.cells #[.int .i64 n, s] 24)).alloc (.cells #[.int .i64 0, .slice none 0 0] 24) = W0 at *
    refine (rFormed_any n s css _ HX.out.bx.rd).mono ?_
    rw [hf]
    rintro e w1 ⟨rfl, bel1⟩
    have HX1 : Hid (En w n s css w1) := HX.out.on bel1
    have HP1 : Hid (Rd w1 vp part) := HP.out.below bel1
    have c0 := HX1.out.bx.c0
    have c1 := HX1.out.bx.c1
    have a0 := HX1.out.ans.c0
    have a1 := HX1.out.ans.c1
    have f0 := HX1.out.ans.f0
    have f1 := HX1.out.ans.f1
    clear HX HP bel1
    go_wp2_with fail
    refine (rWithin_any vp part n w1 HP1.out).mono ?_
    rw [hg]
    rintro e w' ⟨rfl, hw'⟩
    obtain rfl := hw'.symm
    go_wp2
    try simp only [Exit.inBlock, Exit.then]
    refine bodyPost_ret (ret_form rfl rfl ((HX1.out.ans.set0 _).set1 _)) rfl ?_
    exact ⟨_, by rw [HU.out]; rfl, by rw [HU.out]; exact OwnF.nil _ _, below_set (below_set HX1.out.bx.bel (by omega) _ _) (by omega) _ _⟩
  cases ht : adj (tid part)
  case true =>
    have HU : Hid (unF n css part = (0, [], 20)) := by unfold unF Hid; rw [hf, hg, ht]; rfl
    go_enter Try.func17, Try.ntmps17
    go_wp2_with fail
    generalize (w.alloc (.cells #[.int .i64 n, s] 24)).alloc (.cells #[.int .i64 0, .slice none 0 0] 24) = W0 at *
    refine (rFormed_any n s css _ HX.out.bx.rd).mono ?_
    rw [hf]
    rintro e w1 ⟨rfl, bel1⟩
    have HX1 : Hid (En w n s css w1) := HX.out.on bel1
    have HP1 : Hid (Rd w1 vp part) := HP.out.below bel1
    have c0 := HX1.out.bx.c0
    have c1 := HX1.out.bx.c1
    have a0 := HX1.out.ans.c0
    have a1 := HX1.out.ans.c1
    have f0 := HX1.out.ans.f0
    have f1 := HX1.out.ans.f1
    clear HX HP bel1
    go_wp2_with fail
    refine (rWithin_any vp part n w1 HP1.out).mono ?_
    rw [hg]
    rintro e w' ⟨rfl, hw'⟩
    obtain rfl := hw'.symm
    clear c0 c1 a0 a1 f0 f1
    go_wp2_with fail
    refine (refTaut_any vp part w1 HP1.out).mono ?_
    rw [ht]
    rintro e w2 ⟨rfl, bel2⟩
    have HX2 : Hid (En w n s css w2) := HX1.out.on bel2
    have a0 := HX2.out.ans.c0
    have a1 := HX2.out.ans.c1
    have f0 := HX2.out.ans.f0
    have f1 := HX2.out.ans.f1
    clear HX1 HP1 bel2
    go_wp2
    try simp only [Exit.inBlock, Exit.then]
    refine bodyPost_ret (ret_form rfl rfl ((HX2.out.ans.set0 _).set1 _)) rfl ?_
    exact ⟨_, by rw [HU.out]; rfl, by rw [HU.out]; exact OwnF.nil _ _, below_set (below_set HX2.out.bx.bel (by omega) _ _) (by omega) _ _⟩
  have HU : Hid (unF n css part = (n, css.filterMap (rems part), 0)) := by unfold unF Hid; rw [hf, hg, ht]; rfl
  have hn : 0 ≤ n ∧ n ≤ 1048576 := by unfold frm at hf; simp at hf; exact hf.1
  obtain ⟨N, rfl⟩ : ∃ N : Nat, n = (N : Int) := ⟨n.toNat, by omega⟩
  have hN : N ≤ 1048576 := by omega
  have HFit : Hid (∀ k, k < css.length → fitsP N (css.getD k []) = true) := fun k hk => by
    unfold frm at hf; simp only [Bool.and_eq_true] at hf
    exact List.all_eq_true.1 hf.2 _ (getD_mem' hk)
  have HPF : Hid (fitsP N part = true) := hg
  obtain ⟨i0, hi0, hz0, hz1, hz2⟩ := info_parts Try.info3
  obtain ⟨il, hil, hzl0, hzl1, hzl2⟩ := info_parts infoR
  have hlp := HP.out.len
  have hlc := HX.out.bx.rd.len
  obtain ⟨sa, sc, rfl, hcs, hms, _⟩ := HX.out.bx.rd.form
  go_enter Try.func17, Try.ntmps17
  go_wp2_with fail
  generalize (w.alloc (.cells #[.int .i64 N, .slice sa css.length sc] 24)).alloc (.cells #[.int .i64 0, .slice none 0 0] 24) = W0 at *
  refine (rFormed_any N (.slice sa css.length sc) css _ HX.out.bx.rd).mono ?_
  rw [hf]
  rintro e w1 ⟨rfl, bel1⟩
  have HX1 : Hid (En w N (.slice sa css.length sc) css w1) := HX.out.on bel1
  have HP1 : Hid (Rd w1 vp part) := HP.out.below bel1
  have c0 := HX1.out.bx.c0
  have c1 := HX1.out.bx.c1
  have a0 := HX1.out.ans.c0
  have a1 := HX1.out.ans.c1
  have f0 := HX1.out.ans.f0
  have f1 := HX1.out.ans.f1
  clear HX HP bel1
  go_wp2_with fail
  refine (rWithin_any vp part N w1 HP1.out).mono ?_
  rw [hg]
  rintro e w' ⟨rfl, hw'⟩
  obtain rfl := hw'.symm
  clear c0 c1 a0 a1 f0 f1
  go_wp2_with fail
  refine (refTaut_any vp part w1 HP1.out).mono ?_
  rw [ht]
  rintro e w2 ⟨rfl, bel2⟩
  have HX2 : Hid (En w N (.slice sa css.length sc) css w2) := HX1.out.on bel2
  have HP2 : Hid (Rd w2 vp part) := HP1.out.below bel2
  have c0 := HX2.out.bx.c0
  have c1 := HX2.out.bx.c1
  have r2 : (w2.alloc (.cells #[.int .i64 (N : Int), .slice none 0 0] 24)).cell? ⟨w.heap.size, 1, none⟩ = some (.slice sa css.length sc) := ((below_box w2 _).cell (p := ⟨w.heap.size, 1, none⟩) (World.block_lt_of_cell? w2 _ c1)).trans c1
  clear HX1 HP1 bel2 hf hg ht hn
  go_wp2
  clear c0 c1 r2
  go_loopg [7] css.length (fun g i wq => ∃ (k : Nat) (L : List Cls) (rv : Value), k + g = css.length ∧ i = .int .i64 k ∧ L.length ≤ k ∧ L.map Prod.snd = (css.take k).filterMap (rems part) ∧ Hid (Bd w2 N wq rv L))
  case atStart => exact ⟨0, [], _, by omega, rfl, Nat.le_refl _, by simp, Bd.start _ _⟩
  case round =>
    obtain ⟨k, L, rv, hk, rfl, hLk, hL, HB⟩ := hrel
    have HK2 : Hid (k + gk = css.length) := hk
    have HL : Hid (L.map Prod.snd = (css.take k).filterMap (rems part)) := hL
    have HXq : Hid (En w N (.slice sa css.length sc) css wr) := HX2.out.on HB.out.bel
    have HPq : Hid (Rd wr vp part) := HP2.out.below HB.out.bel
    have sz := HB.out.bel.size
    have x1 := HXq.out.bx.c1
    clear hL
    by_cases hlt : k < css.length
    · obtain ⟨b, off, u, rfl, hck, hu0⟩ := HXq.out.bx.at hlt
      have HUq : Hid (Rd wr u (css.getD k [])) := hu0
      have HFk : Hid (fitsP N (css.getD k []) = true) := HFit.out k hlt
      have HS : Hid ((css.take (k + 1)).filterMap (rems part) = (css.take k).filterMap (rems part) ++ (rems part (css.getD k [])).toList) := filterMap_more (rems part) css [] k hlt
      have hzl := hu0.len
      obtain ⟨_, ua, uc, hu, huc, hum, _⟩ := hu0
      have HCK : Hid (wr.cell? ⟨b, off + k, none⟩ = some u) := hck
      have HBb : Hid (b < wr.heap.size) := World.block_lt_of_cell? wr _ hck
      clear hk
      generalize css.getD k [] = z at *
      subst hu
      have HKg : Hid (k + gk = css.length) := HK2.out
      generalize gk = gg at *
      generalize wr = wo at *
      go_wp2
      clear x1 hck
      go_loopg [8, 9, 10] z.length (fun g lv ov j wi => ∃ m : Nat, m + g = z.length ∧ j = .int .i64 m ∧ ov = .bool (remG part (z.take m)) ∧ Own wo.heap.size wi lv (remL part (z.take m)) ∧ Below wo.heap.size wo wi)
      case atStart => exact ⟨0, by omega, rfl, by simp [remG], World.ownsRow_nil _ _ _ _, Below.refl _ _⟩
      case round =>
        obtain ⟨m, hm, rfl, rfl, own, bel⟩ := hrel
        have HM2 : Hid (m + gk = z.length) := hm
        have HXi : Hid (En w N (.slice (some ⟨b, off, none⟩) css.length sc) css wr) := HXq.out.on bel
        have HPi : Hid (Rd wr vp part) := HPq.out.below bel
        have y1 := HXi.out.bx.c1
        have hck : wr.cell? ⟨b, off + k, none⟩ = some (.slice ua z.length uc) := (bel.cell (p := ⟨b, off + k, none⟩) HBb.out).trans HCK.out
        have hs := bel.size
        have hlk : (remL part (z.take m)).length ≤ m := Nat.le_trans (remL_len _ _) (by simp; omega)
        by_cases hmt : m < z.length
        · obtain ⟨ua', uc', eu, _, _, hcell⟩ := (HUq.out.below bel).form
          have e3 : ua' = ua ∧ uc' = uc := by injection eu with q1 q2 q3; exact ⟨q1.symm, q3.symm⟩
          obtain ⟨rfl, rfl⟩ := e3
          obtain ⟨bu, ou, rfl, hcm⟩ := hcell m hmt
          obtain ⟨hfm, hvn⟩ := fits_at HFk.out hmt
          have HG1 : Hid (remG part (z.take (m + 1)) = (remG part (z.take m) || part.contains (z.getD m 0))) := any_take_getD _ z 0 m hmt
          have HL1 : Hid (part.contains (-z.getD m 0) = false → remL part (z.take (m + 1)) = remL part (z.take m) ++ [z.getD m 0]) := remL_yes hmt
          have HL2 : Hid (part.contains (-z.getD m 0) = true → remL part (z.take (m + 1)) = remL part (z.take m)) := remL_no hmt
          clear hm hcell eu
          generalize remL part (z.take m) = out at *
          generalize remG part (z.take m) = og at *
          generalize z.getD m 0 = l at *
          have hneg : wrap64 (-l) = -l := by have := fmd_range hfm; unfold wrap64; omega
          obtain ⟨l0, l1, l2⟩ := fmd_range hfm
          have HH : Hid (∀ x, Calls Try.prog 35 #[vp, .int .i64 x] wr fun e w' => e = .returned (.bool (part.contains x)) ∧ w' = wr) := fun x => rHasInt_any vp part x wr HPi.out
          clear HFk
          generalize hc1 : part.contains l = g1 at *
          generalize hc2 : part.contains (-l) = g2 at *
          have HC1 : Hid (part.contains l = g1) := hc1
          have HC2 : Hid (part.contains (-l) = g2) := hc2
          clear hc1 hc2
          cases g1 <;> cases g2
          · go_wp2_with (first | (go_at_call 35; refine (HH.out _).mono ?_; (first | rw [HC1.out] | rw [HC2.out]); rintro e w' ⟨rfl, hw'⟩; obtain rfl := hw'.symm) | (at_builtin; refine wpList_append_own _ rfl _ _ 39 rfl wo.heap.size 3 i0 (.int .i64 0) 1 8 Try.underlying39 hi0 hz0 hz1 hz2 rfl (by decide) _ out.length (out.map (Value.int .i64)) rfl (World.ownsRow.alloc own _) _ 1 1 [.int .i64 l] rfl rfl (cell_one_new _ _ _) (by simp [Value.oneCell']) (by unfold maxLen; omega) (by omega) (by simp; omega) ?_; intro v2 w2' own2 gr2 hn2))
            go_roundg (gk - 1)
            case measure => have := HM2.out; omega
            case rel => exact ⟨m + 1, by have := HM2.out; omega, by go_num, by rw [HG1.out]; cases og <;> rfl, by rw [HL1.out (by simp)]; exact own_onemore own2, (bel.alloc hs _).grown gr2 (by simp; omega) (fun j hj => (own.lt j hj).1)⟩
          · go_wp2_with (go_at_call 35; refine (HH.out _).mono ?_; (first | rw [HC1.out] | rw [HC2.out]); rintro e w' ⟨rfl, hw'⟩; obtain rfl := hw'.symm)
            go_roundg (gk - 1)
            case measure => have := HM2.out; omega
            case rel => exact ⟨m + 1, by have := HM2.out; omega, by go_num, by rw [HG1.out]; cases og <;> rfl, by rw [HL2.out (by simp)]; exact own, bel⟩
          · go_wp2_with (first | (go_at_call 35; refine (HH.out _).mono ?_; (first | rw [HC1.out] | rw [HC2.out]); rintro e w' ⟨rfl, hw'⟩; obtain rfl := hw'.symm) | (at_builtin; refine wpList_append_own _ rfl _ _ 39 rfl wo.heap.size 3 i0 (.int .i64 0) 1 8 Try.underlying39 hi0 hz0 hz1 hz2 rfl (by decide) _ out.length (out.map (Value.int .i64)) rfl (World.ownsRow.alloc own _) _ 1 1 [.int .i64 l] rfl rfl (cell_one_new _ _ _) (by simp [Value.oneCell']) (by unfold maxLen; omega) (by omega) (by simp; omega) ?_; intro v2 w2' own2 gr2 hn2))
            go_roundg (gk - 1)
            case measure => have := HM2.out; omega
            case rel => exact ⟨m + 1, by have := HM2.out; omega, by go_num, by rw [HG1.out]; cases og <;> rfl, by rw [HL1.out (by simp)]; exact own_onemore own2, (bel.alloc hs _).grown gr2 (by simp; omega) (fun j hj => (own.lt j hj).1)⟩
          · go_wp2_with (go_at_call 35; refine (HH.out _).mono ?_; (first | rw [HC1.out] | rw [HC2.out]); rintro e w' ⟨rfl, hw'⟩; obtain rfl := hw'.symm)
            go_roundg (gk - 1)
            case measure => have := HM2.out; omega
            case rel => exact ⟨m + 1, by have := HM2.out; omega, by go_num, by rw [HG1.out]; cases og <;> rfl, by rw [HL2.out (by simp)]; exact own, bel⟩
        · have e : z.length = m := by omega
          have HE1 : Hid (z.take m = z) := by unfold Hid; rw [← e]; exact List.take_length
          rw [HE1.out] at own hlk ⊢
          have HM : Hid (Own wo.heap.size wr _ (remL part z)) := own
          have d0 := (HB.out.on bel).box.c0
          have d1 := (HB.out.on bel).box.c1
          have hmz : decide ((m : Int) < (z.length : Int)) = false := by rw [decide_eq_false_iff_not]; omega
          clear hm hmt
          cases hq : remG part z
          · have HR : Hid (rems part z = some (remL part z)) := by unfold rems Hid; rw [hq]; rfl
            obtain ⟨a5, c5, hu5⟩ := own_form own
            subst hu5
            have BL5 : Hid (Below wo.heap.size wo wr) := bel
            have B5 : Hid (Bd w2 N wr rv L) := HB.out.on bel
            clear own bel
            go_wp2_with (at_builtin; refine wpList_append_own _ rfl _ _ 22 rfl w2.heap.size 39 il (.slice none 0 0) 1 24 Try.underlying22 hil hzl0 hzl1 hzl2 rfl (by decide) _ L.length (L.map Prod.fst) rfl (B5.out.row_alloc _) _ 1 1 [.slice a5 (remL part z).length c5] rfl rfl (cell_one_new _ _ _) (by simp [Value.oneCell']) (by unfold maxLen; omega) (by omega) (by simp; omega) ?_; intro v6 w6 own6 gr6 hn6; obtain ⟨a6, c6, hv6⟩ := row_form own6; subst hv6; have A6 : Hid (Bx2 w6 w2.heap.size 24 (.int .i64 (N : Int)) rv ∧ Bd w2 N (w6.setCell ⟨w2.heap.size, 1, none⟩ (.slice a6 (L.length + 1) c6)) (.slice a6 (L.length + 1) c6) (L ++ [(.slice a5 (remL part z).length c5, remL part z)])) := HB.out.app BL5.out HM.out own6 gr6; have g0 := A6.out.1.c0; have g1 := A6.out.1.c1; have g2 := A6.out.1.f1)
            go_roundg (gg - 1)
            case measure => have := HKg.out; omega
            case rel => exact ⟨k + 1, L ++ [(Value.slice a5 (remL part z).length c5, remL part z)], Value.slice a6 (L.length + 1) c6, by have := HKg.out; omega, by go_num, by simp; omega, by rw [HS.out, HR.out, List.map_append, HL.out]; rfl, A6.out.2⟩
          · have HR : Hid (rems part z = none) := by unfold rems Hid; rw [hq]; rfl
            go_wp2
            go_roundg (gg - 1)
            case measure => have := HKg.out; omega
            case rel => exact ⟨k + 1, L, rv, by have := HKg.out; omega, by go_num, by omega, by rw [HS.out, HR.out, HL.out]; simp, HB.out.on bel⟩
    · obtain rfl : k = css.length := by omega
      have HE : Hid (L.map Prod.snd = css.filterMap (rems part)) := by have := HL.out; rw [List.take_length] at this; exact this
      have p0 := HXq.out.ans.c0
      have p1 := HXq.out.ans.c1
      have p2 := HXq.out.ans.f0
      have p3 := HXq.out.ans.f1
      have d0 := HB.out.box.c0
      have d1 := HB.out.box.c1
      have HWz : Hid (w.heap.size ≤ w2.heap.size) := HX2.out.bx.bel.size
      obtain ⟨ar, cr, hrv⟩ := row_form HB.out.own.row
      subst hrv
      clear hk
      go_wp2
      try simp only [Exit.inBlock, Exit.then]
      refine bodyPost_ret (ret_form rfl rfl ((HXq.out.ans.set0 _).set1 _)) rfl ?_
      refine ⟨.slice ar L.length cr, by rw [HU.out]; rfl, ?_, below_set (below_set HXq.out.bx.bel (by omega) _ _) (by omega) _ _⟩
      rw [HU.out]
      have F0 : OwnF w.heap.size wr (.slice ar L.length cr) (css.filterMap (rems part)) := ⟨L, HB.out.own.mono HWz.out, HE.out⟩
      exact (F0.set HXq.out.ans (by decide) (by decide) _ _).set (HXq.out.ans.set0 _) (by decide) (by decide) _ _

end Go.Proofs.Ytbnnoajpmmbpbaa
