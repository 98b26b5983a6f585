/-
  RupOrder: the walk (walks/genro.py writes it).
  KEEP: set on app at below new trans refl start ap kept rd rds mono lt add none own nil put len pos setF setV putL putR other neV same_any walk
-/
import Derived.Test.YtkinilhapgagcabDoorJRpG
import Derived.Deep.RegionHeld
import Derived.BigQuiet
set_option linter.unusedSimpArgs false
set_option linter.unusedVariables false
namespace Go.Proofs.YtkinilhapgagcabDoor
open Go Go.RowKit
namespace rupOrder
set_option maxRecDepth 100000 in
set_option maxHeartbeats 4000000 in
theorem walk (n : Int) (s : Value) (css : List (List Int)) (vc : Value) (c : List Int) (t : Int) (w : World) (_ : (Lit.int .i64 n).wf = true) (hr : Rds w s css) (hc : Rd w vc c) (hi : ∀ x ∈ c, i64 x) (_ : (Lit.int .i64 t).wf = true) (hb : css.length + (css.map List.length).sum ≤ 1048576) (hb2 : c.length ≤ 1048576) (hD : Deb w) :
    Calls Tryd.prog 4 #[.agg #[.int .i64 n, s], vc, .int .i64 t] w fun e w' => e = .returned (.bool true) ∧ Below w.heap.size w w' := by
  have HX : Hid (Bx w n s css (w.alloc (.cells #[.int .i64 n, s] 24))) := Bx.new hr _
  have HR : Hid (Rds w s css ∧ Rd w vc c ∧ (∀ x ∈ c, i64 x) ∧ Deb w ∧ Few css) := ⟨hr, hc, hi, hD, Few.of (by omega) (by unfold lsum; omega)⟩
  have H8 : Hid (css.length * 24 ≤ 140737488351232 ∧ (∀ z ∈ css, z.length * 8 ≤ 140737488351232) ∧ css.length + (css.map List.length).sum ≤ 1048576 ∧ css.length ≤ 1048576 ∧ lsum css ≤ 1048576) := ⟨hr.len, rds_each hr, hb, by omega, by unfold lsum; omega⟩
  have hcl : css.length ≤ 1048576 := by omega
  have HPk : Hid (0 < css.length → ∀ W, Calls Tryd.prog 13 #[.int .i64 t, .int .i64 css.length] W fun e w' => e = .returned (.int .i64 (pk8 t css.length)) ∧ w' = W) := fun h W => pick8_any t css.length W h hcl
  have HTl : Hid (css.length = 0 ∨ pk8 t css.length < css.length) := by
    by_cases h : css.length = 0
    · exact .inl h
    · exact .inr (pk8_lt t (by omega))
  obtain ⟨T, hT⟩ : ∃ T, pk8 t css.length = T := ⟨_, rfl⟩
  rw [hT] at HPk HTl
  obtain ⟨sa, sc, rfl, hsa, hsb, -⟩ := hr.form
  obtain ⟨fa, fc, rfl, hfa, hfb, -⟩ := hc.form
  have ef : wrap64 ((c.length : Int) - 1) = (c.length : Int) - 1 := by unfold wrap64; omega
  obtain ⟨i0, hi0, hz0, hz1, hz2⟩ := info_parts Tryd.info3
  obtain ⟨il, hil, hzl0, hzl1, hzl2⟩ := info_parts infoL8
  clear hr hc hD hb hi hT
  go_enter Tryd.func4, Tryd.ntmps4
  go_wp2_with fail
  refine (awake8_any _ (HR.out.2.2.2.1.at HX.out.bel)).mono ?_
  rintro e w4 ⟨rfl, bel1⟩
  have HX1 : Hid (Bx w n (.slice sa css.length sc) css w4) := HX.out.on bel1
  have k0 := HX1.out.c0
  have k1 := HX1.out.c1
  clear bel1 HX
  have r4 : (w4.alloc (.cells #[.int .i64 n, .slice none 0 0] 24)).cell? ⟨w.heap.size, 1, none⟩ = some (.slice sa css.length sc) := ((below_box w4 _).cell (p := ⟨w.heap.size, 1, none⟩) (World.block_lt_of_cell? w4 _ k1)).trans k1
  have HX4 : Hid (∀ W, Below w4.heap.size w4 W → W.cell? ⟨w.heap.size, 0, none⟩ = some (.int .i64 n) ∧ W.cell? ⟨w.heap.size, 1, none⟩ = some (.slice sa css.length sc)) := fun W hW => ⟨(HX1.out.on hW).c0, (HX1.out.on hW).c1⟩
  have HBw : Hid (∀ W, Below w4.heap.size w4 W → Below w.heap.size w W) := fun W hW => Below.step HX1.out.bel hW
  clear HX1
  go_wp2_with fail
  clear k0 k1 r4
  go_loopg [9] css.length (fun g iv wq => ∃ (k : Nat) (L : List Cls) (rv : Value), k + g = css.length ∧ iv = .int .i64 k ∧ L.length = k ∧ Hid (L.map Prod.snd = rot8 css T k) ∧ Hid (Bd w4 n wq rv L))
  case atStart => exact ⟨0, [], _, by omega, rfl, rfl, rfl, by first | exact Bd.start _ _ | exact (Bd.start _ _).on (below_drewN _ _)⟩
  case round =>
    obtain ⟨k, L, rv, hk, rfl, hLk, HO, HB⟩ := hrel
    have HK : Hid (k + gk = css.length) := hk
    have HLk : Hid (L.length = k) := hLk
    have hLc : L.length ≤ 1048576 := by omega
    have hkc : k ≤ 1048576 := by omega
    obtain ⟨x0, x1⟩ := HX4.out wr HB.out.bel
    have HRs : Hid (Rds wr (.slice sa css.length sc) css) := HR.out.1.below (HBw.out wr HB.out.bel)
    have sz := HB.out.bel.size
    clear hLk
    by_cases hlt : k < css.length
    · have HLT : Hid (k < css.length) := hlt
      have hpos : 0 < css.length := by omega
      have HPick : Hid (∀ W, Calls Tryd.prog 13 #[.int .i64 t, .int .i64 css.length] W fun e w' => e = .returned (.int .i64 T) ∧ w' = W) := HPk.out hpos
      have hTl : T < css.length := HTl.out.resolve_left (by omega)
      have HO2 : Hid (rot8 css T (k + 1) = rot8 css T k ++ [tw8 (css.getD ((k + T) % css.length) [])]) := rot8_more css T k
      have hat : (k + T) % css.length < css.length := Nat.mod_lt _ hpos
      have hadd : wrap64 ((k : Int) + (T : Int)) = (k : Int) + (T : Int) := wa8 hkc (by omega)
      have hrem0 : ((k : Int) + (T : Int)).tmod (css.length : Int) = (((k + T) % css.length : Nat) : Int) := rem8 k T css.length
      have hne0 : ((css.length : Int) == 0) = false := ne08 hpos
      generalize (k + T) % css.length = q at *
      have hqb : q ≤ 1048576 := Nat.le_trans (Nat.le_of_lt hat) hcl
      have hrem1 : IntKind.i64.wrap (((k : Int) + (T : Int)).tmod (css.length : Int)) = (q : Int) := hrem0.symm ▸ wq8 hqb
      have hrem2 : wrap64 (q : Int) = (q : Int) := wq9 hqb
      obtain ⟨b, off, u, rfl, hcz, hu0⟩ : ∃ b off u, sa = some ⟨b, off, none⟩ ∧ wr.cell? ⟨b, off + q, none⟩ = some u ∧ Rd wr u (css.getD q []) := by
        obtain ⟨sa', sc', es, _, _, hcell⟩ := HRs.out.form
        injection es with es1 _ es3
        subst es1; subst es3
        exact hcell q hat
      have HUz : Hid (Rd wr u (css.getD q [])) := hu0
      have hzl := hu0.len
      obtain ⟨_, ua, uc, hu, huc, hum, _⟩ := hu0
      have hzm : (css.getD q []).length ≤ 1048576 := Nat.le_trans (lsum_mem (getD_mem' hat)) H8.out.2.2.2.2
      clear hk
      generalize css.getD q [] = z at *
      subst hu
      generalize gk = gg at *
      generalize wr = wo at *
      have ez : wrap64 ((z.length : Int) - 1) = (z.length : Int) - 1 := by unfold wrap64; omega
      have hadd2 : IntKind.i64.wrap ((k : Int) + (T : Int)) = (k : Int) + (T : Int) := wa9 hkc (by omega)
      have hne1 : ¬ ((css.length : Int) = 0) := by omega
      have hne2 : ¬ (css.length = 0) := by omega
      have hne3 : ¬ (css = []) := fun h => hne2 (by rw [h]; rfl)
      have HKp : Hid (z.length ≤ uc ∧ uc ≤ maxLen ∧ z.length ≤ 1048576 ∧ wrap64 ((z.length : Int) - 1) = (z.length : Int) - 1 ∧ wrap64 ((c.length : Int) - 1) = (c.length : Int) - 1) := ⟨huc, hum, hzm, ez, ef⟩
      clear hrem1 ez hzl hzm hqb hum huc hTl hpos ef hsa hsb hfa hfb
      go_wp2_with fail
      go_quiet ((go_at_call 13; exact Calls.quiet_of_same (HPick.out _)))
      obtain ⟨huc, hum, hzm, ez, ef⟩ := HKp.out
      go_wp2
      clear x0 x1 hcz
      go_loopg [11, 12] z.length (fun g lv jv wi => ∃ (m : Nat) (i : Int), m = g ∧ i + 1 = m ∧ m ≤ z.length ∧ jv = .int .i64 i ∧ Own wo.heap.size wi lv (z.drop m).reverse ∧ Below wo.heap.size wo wi)
      case atStart => exact ⟨z.length, (z.length : Int) - 1, rfl, by omega, Nat.le_refl _, by first | rfl | go_num, by rw [List.drop_length]; exact World.ownsRow_nil _ _ _ _, by first | exact Below.refl _ _ | exact below_drewN _ _⟩
      case round =>
        obtain ⟨m, i, hm, hi, hmz, rfl, own, bel⟩ := hrel
        have HM2 : Hid (m = gk) := hm
        have hlk : (z.drop m).reverse.length ≤ 1048576 := by simp; omega
        have hs := bel.size
        clear hm
        by_cases hi0' : 0 ≤ i
        · obtain ⟨j, rfl⟩ : ∃ j : Nat, i = (j : Int) := ⟨i.toNat, by omega⟩
          obtain rfl : m = j + 1 := by omega
          obtain ⟨ua', uc', eu, _, _, hcell⟩ := (HUz.out.below bel).form
          injection eu with q1 _ q3
          subst q1; subst q3
          have hjz : j < z.length := by omega
          obtain ⟨bu, ou, rfl, hcm⟩ := hcell j hjz
          have HRv : Hid ((z.drop j).reverse = (z.drop (j + 1)).reverse ++ [z.getD j 0]) := drop_rev8 hjz
          clear hcell hi
          generalize (z.drop (j + 1)).reverse = out at *
          generalize z.getD j 0 = l at *
          have ej : wrap64 ((j : Int) - 1) = (j : Int) - 1 := by unfold wrap64; omega
          go_wp2_with (at_builtin; refine wpList_append_own _ rfl _ _ 25 rfl wo.heap.size 3 i0 (.int .i64 0) 1 8 Tryd.underlying25 hi0 hz0 hz1 hz2 rfl (by decide) _ out.length (out.map (Value.int .i64)) rfl (World.ownsRow.alloc own _) _ 1 1 [.int .i64 l] rfl rfl (cell_one_new _ _ _) (by simp [Value.oneCell']) (by unfold maxLen; omega) (by omega) (by simp; omega) ?_; intro v2 w2' own2 gr2 hn2)
          go_roundg (gk - 1)
          case measure => have := HM2.out; omega
          case rel => exact ⟨j, (j : Int) - 1, by have := HM2.out; omega, by omega, by omega, by first | rfl | go_num, by rw [HRv.out]; exact own_onemore8 own2, (bel.alloc hs _).grown gr2 (by simp; omega) (fun j hj => (own.lt j hj).1)⟩
        · obtain rfl : m = 0 := by omega
          obtain rfl : i = -1 := by omega
          clear hi0' hi
          rw [List.drop_zero] at own hlk
          obtain ⟨a5, c5, hu5⟩ := own_form own
          subst hu5
          have HOw : Hid (Own wo.heap.size wr (.slice a5 z.reverse.length c5) z.reverse) := own
          have BL5 : Hid (Below wo.heap.size wo wr) := bel
          have d0 := (HB.out.on bel).box.c0
          have d1 := (HB.out.on bel).box.c1
          by_cases hz : z = []
          · have HTw : Hid (tw8 z = []) := by rw [hz]; rfl
            have hz2' : z.length = 0 := by rw [hz]; rfl
            have hzr : z.reverse = [] := by rw [hz]; rfl
            have hzd : decide ((0 : Int) < (z.length : Int)) = false := by rw [hz]; rfl
            rw [hzr] at HOw
            have HM : Hid (Own wo.heap.size wr (.slice a5 [].length c5) []) := HOw.out
            have B5 : Hid (Bd w4 n wr rv L) := HB.out.on bel
            clear own bel HOw hlk hz
            generalize z.reverse = zr at *
            subst hzr
            go_wp2_with (at_builtin; refine wpList_append_own _ rfl _ _ 22 rfl w4.heap.size 25 il (.slice none 0 0) 1 24 Tryd.underlying22 hil hzl0 hzl1 hzl2 rfl (by decide) _ L.length (L.map Prod.fst) rfl (B5.out.row_alloc _) _ 1 1 [.slice a5 0 c5] rfl rfl (cell_one_new _ _ _) (by simp [Value.oneCell']) (by unfold maxLen; omega) (by omega) (by simp; omega) ?_; intro v6 w6 own6 gr6 hn6; obtain ⟨a6, c6, hv6⟩ := row_form own6; subst hv6; have A6 : Hid (Bx2 w6 w4.heap.size 24 (.int .i64 n) rv ∧ Bd w4 n (w6.setCell ⟨w4.heap.size, 1, none⟩ (.slice a6 (L.length + 1) c6)) (.slice a6 (L.length + 1) c6) (L ++ [(.slice a5 0 c5, [])])) := HB.out.app BL5.out HM.out own6 gr6; have g0 := A6.out.1.c0; have g1 := A6.out.1.c1; have g2 := A6.out.1.f1)
            go_roundg (gg - 1)
            case measure => have := HK.out; have := HLT.out; omega
            case rel => exact ⟨k + 1, L ++ [(Value.slice a5 0 c5, [])], Value.slice a6 (L.length + 1) c6, by have := HK.out; have := HLT.out; omega, by go_num, by have := HLk.out; simp; omega, by show _ = _; rw [List.map_append, HO2.out, HO.out, HTw.out]; rfl, A6.out.2⟩
          · have HTw : Hid (tw8 z = z.reverse ++ [z.getD 0 0]) := tw8_cons hz
            have hpz : 0 < z.length := List.length_pos_iff.2 hz
            have hll : z.reverse.length = z.length := List.length_reverse
            have hzd : decide ((0 : Int) < (z.length : Int)) = true := decide_eq_true (by omega)
            clear d0 d1
            obtain ⟨ax, cx, ex, _, _, hcx⟩ := (HUz.out.below bel).form
            injection ex with ex1 _ ex3
            subst ex1; subst ex3
            obtain ⟨bz, oz, rfl, kz⟩ := hcx 0 hpz
            have kz' : wr.cell? ⟨bz, oz, none⟩ = some (.int .i64 (z.getD 0 0)) := kz
            have hzrl : z.reverse.length ≤ 1048576 := by omega
            clear hcx hll kz
            generalize z.reverse = zr at *
            generalize z.getD 0 0 = l at *
            have B5 : Hid (Bd w4 n wr rv L) := HB.out.on bel
            have hwo : wo.heap.size ≤ wr.heap.size := bel.size
            have hw4 : w4.heap.size ≤ wo.heap.size := sz
            clear bel hz
            have K7 : Hid (∀ v2 w2', w2'.ownsRow wo.heap.size 3 1 v2 (zr.length + 1) (zr.map (Value.int .i64) ++ [.int .i64 l]) → (wr.alloc (.cells #[.int .i64 l] 3)).grownBy w2' (Value.slice a5 zr.length c5).ownBlock → Below wo.heap.size wo w2' ∧ Below w4.heap.size w4 w2') := fun v2 w2' own2 gr2 => by
              have h1 : Below wo.heap.size wo w2' := (BL5.out.alloc hwo _).grown gr2 (by simp; omega) (fun j hj => (HOw.out.lt j hj).1)
              exact ⟨h1, Below.step HB.out.bel h1⟩
            go_wp2_with (first
              | (have h7 := O7; clear h7; at_builtin; refine wpList_append_own _ rfl _ _ 22 rfl w4.heap.size 25 il (.slice none 0 0) 1 24 Tryd.underlying22 hil hzl0 hzl1 hzl2 rfl (by decide) _ L.length (L.map Prod.fst) rfl (B7.out.row_alloc _) _ 1 1 [.slice a7 (zr.length + 1) c7] rfl rfl (cell_one_new _ _ _) (by simp [Value.oneCell']) (by unfold maxLen; omega) (by omega) (by simp; omega) ?_; intro v6 w6 own6 gr6 hn6; obtain ⟨a6, c6, hv6⟩ := row_form own6; subst hv6; have A6 : Hid (Bx2 w6 w4.heap.size 24 (.int .i64 n) rv ∧ Bd w4 n (w6.setCell ⟨w4.heap.size, 1, none⟩ (.slice a6 (L.length + 1) c6)) (.slice a6 (L.length + 1) c6) (L ++ [(.slice a7 (zr.length + 1) c7, zr ++ [l])])) := HB.out.app O7.out.2 O7.out.1 own6 gr6; have g0 := A6.out.1.c0; have g1 := A6.out.1.c1; have g2 := A6.out.1.f1)
              | (at_builtin; refine wpList_append_own _ rfl _ _ 25 rfl wo.heap.size 3 i0 (.int .i64 0) 1 8 Tryd.underlying25 hi0 hz0 hz1 hz2 rfl (by decide) _ zr.length (zr.map (Value.int .i64)) rfl (World.ownsRow.alloc own _) _ 1 1 [.int .i64 l] rfl rfl (cell_one_new _ _ _) (by simp [Value.oneCell']) (by unfold maxLen; omega) (by omega) (by simp; omega) ?_; intro v2 w2' own2 gr2 hn2; obtain ⟨a7, c7, hv7⟩ := row_form own2; subst hv7; have O7 : Hid (Own wo.heap.size w2' (.slice a7 (zr.length + 1) c7) (zr ++ [l]) ∧ Below wo.heap.size wo w2') := ⟨own_onemore8 own2, (K7.out _ _ own2 gr2).1⟩; have B7 : Hid (Bd w4 n w2' rv L) := HB.out.on O7.out.2; have hw7 : w4.heap.size ≤ w2'.heap.size := (K7.out _ _ own2 gr2).2.size; have d1 := B7.out.box.c1; have d2 := (B7.out.on (below_box w2' (.cells #[.slice a7 (zr.length + 1) c7] 25))).box.c1; clear own2 gr2 hn2))
            go_roundg (gg - 1)
            case measure => have := HK.out; have := HLT.out; omega
            case rel => exact ⟨k + 1, L ++ [(Value.slice a7 (zr.length + 1) c7, zr ++ [l])], Value.slice a6 (L.length + 1) c6, by have := HK.out; have := HLT.out; omega, by go_num, by have := HLk.out; simp; omega, by show _ = _; rw [List.map_append, HO2.out, HO.out, HTw.out]; rfl, A6.out.2⟩
    · obtain rfl : k = css.length := by omega
      have HRo : Hid (Ro css (L.map Prod.snd)) := by show Ro _ _; rw [HO.out]; exact Ro.done HTl.out
      have HLf : Hid (L.length = css.length) := HLk.out
      clear HO hk HK hlt HPk HTl
      generalize wr = wl at *
      by_cases hce : c = []
      · subst hce
        have HOb : Hid (Own wl.heap.size wl (.slice none 0 0) (([] : List Int).take 1 ++ ([] : List Int).take 1) ∧ Below wl.heap.size wl wl) := ⟨World.ownsRow_nil _ _ _ _, Below.refl _ _⟩
        have HC0 : Hid (([] : List Int).length = 0) := rfl
        have HCn : Hid (([] : List Int).length = 0 ∨ 1 ≤ ([] : List Int).length) := .inl rfl
        have em : wrap64 (-1) = -1 := by unfold wrap64; omega
        clear ef
        go_wp2
        clear x0 x1
        go_loopg [13, 14] ([] : List Int).length (fun g lv jv wi => ∃ (m : Nat) (i : Int), m = g ∧ i + 1 = m ∧ m ≤ ([] : List Int).length ∧ (([] : List Int).length = 0 ∨ 1 ≤ m) ∧ jv = .int .i64 i ∧ Own wl.heap.size wi lv ((([] : List Int).take 1 ++ ([] : List Int).take 1) ++ (([] : List Int).drop m).reverse) ∧ Below wl.heap.size wl wi)
        case atStart => exact ⟨([] : List Int).length, (([] : List Int).length : Int) - 1, rfl, by omega, Nat.le_refl _, HCn.out, by first | rfl | go_num | simp, by first | (rw [List.drop_length, List.reverse_nil, List.append_nil]; exact HOb.out.1) | exact HOb.out.1, HOb.out.2⟩
        case round =>
          obtain ⟨m, i, hm, hi, hmz, hm1, rfl, own, bel⟩ := hrel
          have HM2 : Hid (m = gk) := hm
          have hs := bel.size
          have hlk : ((([] : List Int).take 1 ++ ([] : List Int).take 1) ++ (([] : List Int).drop m).reverse).length ≤ 2097152 := by (first | (simp; done) | (simp; omega))
          have HBt : Hid (Bd w4 n wr rv L) := HB.out.on bel
          clear hm
          by_cases hi0' : 0 < i
          · exfalso; have := HC0.out; omega
          · have hend : (([] : List Int).length = 0 ∧ m = 0) ∨ m = 1 := by omega
            rw [bk_end hend] at own hlk
            obtain ⟨oa, oc, hov⟩ := own_form own
            subst hov
            have HRb : Hid (Rd wr (.slice oa (bk8 ([] : List Int)).length oc) (bk8 ([] : List Int))) := own.rd (by omega)
            have HRg : Hid (Rds wr rv (L.map Prod.snd)) := OwnF.rds ⟨L, HBt.out.own, rfl⟩ (by rw [HRo.out.len]; exact H8.out.1) (fun z hz => by have h1 := lsum_mem hz; have h2 := HRo.out.sum; have h3 := H8.out.2.2.2; omega)
            have HIb : Hid (∀ x ∈ bk8 ([] : List Int), i64 x) := fun x hx => HR.out.2.2.1 x (mem_bk8.1 hx)
            have HFw : Hid (Few (L.map Prod.snd)) := HRo.out.few H8.out.2.2.1
            have HBr : Hid (Below w.heap.size w wr) := HBw.out wr HBt.out.bel
            have HC : Hid (∀ W, Below wr.heap.size wr W → W.cell? ⟨w.heap.size, 0, none⟩ = some (.int .i64 n) ∧ W.cell? ⟨w.heap.size, 1, none⟩ = some (.slice sa css.length sc) ∧ W.cell? ⟨w4.heap.size, 0, none⟩ = some (.int .i64 n) ∧ W.cell? ⟨w4.heap.size, 1, none⟩ = some rv) := fun W hW => ⟨(HX4.out W (Below.step HBt.out.bel hW)).1, (HX4.out W (Below.step HBt.out.bel hW)).2, (HBt.out.on hW).box.c0, (HBt.out.on hW).box.c1⟩
            have HK1 : Hid (∀ W, Below wr.heap.size wr W → Calls Tryd.prog 14 #[.agg #[.int .i64 n, .slice sa css.length sc], .slice fa ([] : List Int).length fc] W fun e w' => e = .returned (.tuple #[.int .i64 (kn8 n css ([] : List Int)), .int .i64 (shE (shp n css ([] : List Int)))]) ∧ Below wr.heap.size wr w') := fun W hW => (kind_any n _ _ css ([] : List Int) W (HR.out.1.below (Below.step HBr.out hW)) (HR.out.2.1.below (Below.step HBr.out hW)) HR.out.2.2.1 HR.out.2.2.2.2 (HR.out.2.2.2.1.at (Below.step HBr.out hW))).mono fun e w' h => ⟨h.1, Below.step hW h.2⟩
            have HK2 : Hid (∀ W, Below wr.heap.size wr W → Calls Tryd.prog 14 #[.agg #[.int .i64 n, rv], .slice oa (bk8 ([] : List Int)).length oc] W fun e w' => e = .returned (.tuple #[.int .i64 (kn8 n css ([] : List Int)), .int .i64 (shE (shp n css ([] : List Int)))]) ∧ Below wr.heap.size wr w') := fun W hW => (kind_any n _ _ (L.map Prod.snd) (bk8 ([] : List Int)) W (HRg.out.below hW) (HRb.out.below hW) HIb.out HFw.out (HR.out.2.2.2.1.at (Below.step HBr.out hW))).mono fun e w' h => ⟨by rw [h.1, ← HRo.out.kn, ← HRo.out.shp], Below.step hW h.2⟩
            have HB1 : Hid (∀ W, Below wr.heap.size wr W → Calls Tryd.prog 8 #[.agg #[.int .i64 n, .slice sa css.length sc], .slice fa ([] : List Int).length fc] W fun e w' => e = .returned (.tuple #[.bool (shp n css ([] : List Int) && blkB css ([] : List Int)), .int .i64 (shE (shp n css ([] : List Int)))]) ∧ Below wr.heap.size wr w') := fun W hW => (blocked_any n _ _ css ([] : List Int) W (HR.out.1.below (Below.step HBr.out hW)) (HR.out.2.1.below (Below.step HBr.out hW))).mono fun e w' h => ⟨by rw [h.1, shB_shp, shBE_shE], Below.step hW h.2⟩
            have HB2 : Hid (∀ W, Below wr.heap.size wr W → Calls Tryd.prog 8 #[.agg #[.int .i64 n, rv], .slice oa (bk8 ([] : List Int)).length oc] W fun e w' => e = .returned (.tuple #[.bool (shp n css ([] : List Int) && blkB css ([] : List Int)), .int .i64 (shE (shp n css ([] : List Int)))]) ∧ Below wr.heap.size wr w') := fun W hW => (blocked_any n _ _ (L.map Prod.snd) (bk8 ([] : List Int)) W (HRg.out.below hW) (HRb.out.below hW)).mono fun e w' h => ⟨by rw [h.1, shB_shp, shBE_shE, ← HRo.out.blk, ← HRo.out.shp], Below.step hW h.2⟩
            have HP1 : Hid (∀ W, Below wr.heap.size wr W → Calls Tryd.prog 15 #[.agg #[.int .i64 n, .slice sa css.length sc], .int .i64 1] W fun e w' => ∃ a9 c9, e = .returned (.slice a9 (ptnA n css (ngw 1)).length c9) ∧ Below W.heap.size W w') := fun W hW => (partners_any n _ css 1 W (HR.out.1.below (Below.step HBr.out hW))).mono fun e w' ⟨v9, he, ho, hb9⟩ => by
              obtain ⟨a9, c9, e9⟩ := own_form ho
              subst e9
              exact ⟨a9, c9, he, hb9⟩
            have HP2 : Hid (∀ W, Below wr.heap.size wr W → Calls Tryd.prog 15 #[.agg #[.int .i64 n, rv], .int .i64 1] W fun e w' => ∃ a9 c9, e = .returned (.slice a9 (ptnA n css (ngw 1)).length c9) ∧ Below W.heap.size W w') := fun W hW => (partners_any n _ (L.map Prod.snd) 1 W (HRg.out.below hW)).mono fun e w' ⟨v9, he, ho, hb9⟩ => by
              obtain ⟨a9, c9, e9⟩ := own_form ho
              subst e9
              exact ⟨a9, c9, by rw [he, HRo.out.ptn (n := n)], hb9⟩
            have hpl := ptnA_len n css (ngw 1)
            clear own hmz hm1 hi hend HRb HRg HIb HFw HRo HR H8 HB HBt HOb HX4 HRs HCn
            generalize kn8 n css ([] : List Int) = z1 at *
            generalize shE (shp n css ([] : List Int)) = z2 at *
            generalize (shp n css ([] : List Int) && blkB css ([] : List Int)) = z3 at *
            generalize (ptnA n css (ngw 1)).length = z4 at *
            generalize (bk8 ([] : List Int)).length = z5 at *
            have e1 : (z1 == z1) = true := by simp
            have e2 : (z2 == z2) = true := by simp
            have e3 : (z3 == z3) = true := by simp
            obtain ⟨p0, p1, p2, p3⟩ := HC.out wr (Below.refl _ _)
            go_wp2_with fail
            refine (HK1.out _ (Below.refl _ _)).mono ?_
            rintro e y1 ⟨rfl, yb1⟩
            have Y1 : Hid (Below wr.heap.size wr y1) := yb1
            clear p0 p1 p2 p3 yb1
            obtain ⟨p0, p1, p2, p3⟩ := HC.out y1 Y1.out
            go_wp2_with fail
            refine (HK2.out _ Y1.out).mono ?_
            rintro e y2 ⟨rfl, yb2⟩
            have Y2 : Hid (Below wr.heap.size wr y2) := yb2
            clear p0 p1 p2 p3 yb2
            obtain ⟨p0, p1, p2, p3⟩ := HC.out y2 Y2.out
            go_wp2_with fail
            refine (HB1.out _ Y2.out).mono ?_
            rintro e y3 ⟨rfl, yb3⟩
            have Y3 : Hid (Below wr.heap.size wr y3) := yb3
            clear p0 p1 p2 p3 yb3
            obtain ⟨p0, p1, p2, p3⟩ := HC.out y3 Y3.out
            go_wp2_with fail
            refine (HB2.out _ Y3.out).mono ?_
            rintro e y4 ⟨rfl, yb4⟩
            have Y4 : Hid (Below wr.heap.size wr y4) := yb4
            clear p0 p1 p2 p3 yb4
            obtain ⟨p0, p1, p2, p3⟩ := HC.out y4 Y4.out
            have HC4 : Hid (∀ W, Below y4.heap.size y4 W → Below y4.heap.size y4 W ∧ W.cell? ⟨w.heap.size, 0, none⟩ = some (.int .i64 n) ∧ W.cell? ⟨w.heap.size, 1, none⟩ = some (.slice sa css.length sc) ∧ W.cell? ⟨w4.heap.size, 0, none⟩ = some (.int .i64 n) ∧ W.cell? ⟨w4.heap.size, 1, none⟩ = some rv) := fun W hW => ⟨hW, HC.out W (Below.step Y4.out hW)⟩
            have HQ1 : Hid (∀ W, Below y4.heap.size y4 W → Calls Tryd.prog 15 #[.agg #[.int .i64 n, .slice sa css.length sc], .int .i64 1] W fun e w' => ∃ a9 c9, e = .returned (.slice a9 z4 c9) ∧ Below y4.heap.size y4 w') := fun W hW => (HP1.out W (Below.step Y4.out hW)).mono fun e w' ⟨a9, c9, h1, h2⟩ => ⟨a9, c9, h1, Below.step hW h2⟩
            have HQ2 : Hid (∀ W, Below y4.heap.size y4 W → Calls Tryd.prog 15 #[.agg #[.int .i64 n, rv], .int .i64 1] W fun e w' => ∃ a9 c9, e = .returned (.slice a9 z4 c9) ∧ Below y4.heap.size y4 w') := fun W hW => (HP2.out W (Below.step Y4.out hW)).mono fun e w' ⟨a9, c9, h1, h2⟩ => ⟨a9, c9, h1, Below.step hW h2⟩
            have HFin : Hid (∀ W, Below y4.heap.size y4 W → Below w.heap.size w W) := fun W hW => Below.step HBr.out (Below.step Y4.out hW)
            have e4 : ((z4 : Int) == z4) = true := by simp
            clear HK1 HK2 HB1 HB2 HP1 HP2 HC
            go_wp2_with fail
            go_region_held (fun W => Below y4.heap.size y4 W ∧ W.cell? ⟨w.heap.size, 0, none⟩ = some (.int .i64 n) ∧ W.cell? ⟨w.heap.size, 1, none⟩ = some (.slice sa css.length sc) ∧ W.cell? ⟨w4.heap.size, 0, none⟩ = some (.int .i64 n) ∧ W.cell? ⟨w4.heap.size, 1, none⟩ = some rv) (first | exact HC4.out _ (Below.refl _ _).drew | exact HC4.out _ B6.out | exact HC4.out _ B5.out) (first
              | (have qq := B5.out; go_at_call 15; refine (HQ2.out _ B5.out).mono ?_; rintro e y6 ⟨a6, c6, rfl, hb6⟩; have B6 : Hid (Below y4.heap.size y4 y6) := hb6; clear hb6 qq)
              | (go_at_call 15; refine (HQ1.out _ (Below.refl _ _).drew).mono ?_; rintro e y5 ⟨a5, c5, rfl, hb5⟩; have B5 : Hid (Below y4.heap.size y4 y5) := hb5; clear hb5))
            go_wp2
            go_ret
            exact ⟨rfl, HFin.out _ B6.out⟩
      · have hcp : 0 < c.length := List.length_pos_iff.2 hce
        have hcd : decide ((0 : Int) < (c.length : Int)) = true := decide_eq_true (by omega)
        have HCn : Hid (c.length = 0 ∨ 1 ≤ c.length) := .inr hcp
        obtain ⟨fa', fc', eu, _, _, hcell⟩ := (HR.out.2.1.below (HBw.out wl HB.out.bel)).form
        injection eu with q1 _ q3
        subst q1; subst q3
        obtain ⟨bu, ou, rfl, kc⟩ := hcell 0 hcp
        have kc' : wl.cell? ⟨bu, ou, none⟩ = some (.int .i64 (c.getD 0 0)) := kc
        have HT1 : Hid (c.take 1 ++ c.take 1 = [c.getD 0 0, c.getD 0 0]) := by
          cases c with
          | nil => exact absurd rfl hce
          | cons p r => rfl
        clear hcell kc hce
        generalize c.getD 0 0 = p at *
        go_wp2_with fail
        go_region_law (refine step_app_rd rfl (.tmp 81) (.tmp 88) rfl wl.heap.size (.slice none 0 0) (.slice (some ⟨wl.heap.size, 0, none⟩) 2 2) [] [p, p] (by simp [Act.eval, Act.put]) (by simp [Act.eval, Act.put]) (World.ownsRow_nil _ _ _ _) (rd_two8 wl.drew p) (by simp) (by simp) ?_; intro v7 w7 own7 ap7; obtain ⟨a7, c7, hv7⟩ := own_form own7; simp only [List.nil_append, List.length_append, List.length_cons, List.length_nil, Nat.zero_add] at hv7; subst hv7; have HO7 : Hid (Own wl.heap.size w7 (.slice a7 (1 + 1) c7) [p, p]) := own7; have HP7 : Hid (Ap (wl.drew.alloc (.cells #[.int .i64 p, .int .i64 p] 3)) (.slice none 0 0) w7 (.slice a7 (1 + 1) c7)) := ap7; clear own7 ap7)
        all_goals
          have HBA : Hid (Below wl.heap.size wl (wl.drew.alloc (.cells #[.int .i64 p, .int .i64 p] 3))) := Below.step (Below.refl _ _).drew (below_box _ _)
          have HB7 : Hid (Below wl.heap.size wl w7) := HBA.out.grown HP7.out.grown HBA.out.size (fun k e => by cases e)
          have HOb : Hid (Own wl.heap.size w7 (.slice a7 (1 + 1) c7) (c.take 1 ++ c.take 1) ∧ Below wl.heap.size wl w7) := ⟨by rw [HT1.out]; exact HO7.out, HB7.out⟩
          go_wp2
          clear x0 x1
          go_loopg [13, 14] c.length (fun g lv jv wi => ∃ (m : Nat) (i : Int), m = g ∧ i + 1 = m ∧ m ≤ c.length ∧ (c.length = 0 ∨ 1 ≤ m) ∧ jv = .int .i64 i ∧ Own wl.heap.size wi lv ((c.take 1 ++ c.take 1) ++ (c.drop m).reverse) ∧ Below wl.heap.size wl wi)
          case atStart => exact ⟨c.length, (c.length : Int) - 1, rfl, by omega, Nat.le_refl _, HCn.out, by first | rfl | go_num | simp, by first | (rw [List.drop_length, List.reverse_nil, List.append_nil]; exact HOb.out.1) | exact HOb.out.1, HOb.out.2⟩
          case round =>
            obtain ⟨m, i, hm, hi, hmz, hm1, rfl, own, bel⟩ := hrel
            have HM2 : Hid (m = gk) := hm
            have hs := bel.size
            have hlk : ((c.take 1 ++ c.take 1) ++ (c.drop m).reverse).length ≤ 2097152 := by (first | (simp; done) | (simp; omega))
            have HBt : Hid (Bd w4 n wr rv L) := HB.out.on bel
            clear hm
            by_cases hi0' : 0 < i
            · obtain ⟨j, rfl⟩ : ∃ j : Nat, i = (j : Int) := ⟨i.toNat, by omega⟩
              obtain rfl : m = j + 1 := by omega
              obtain ⟨fa', fc', eu, _, _, hcell⟩ := (HR.out.2.1.below (HBw.out wr HBt.out.bel)).form
              injection eu with q1 _ q3
              subst q1; subst q3
              have hjz : j < c.length := by omega
              obtain ⟨bu2, ou2, hfe, hcm⟩ := hcell j hjz
              obtain ⟨rfl, rfl⟩ : bu2 = bu ∧ ou2 = ou := by injection hfe with h1; injection h1 with h2 h3; exact ⟨h2.symm, h3.symm⟩
              have HRv : Hid ((c.take 1 ++ c.take 1) ++ (c.drop j).reverse = ((c.take 1 ++ c.take 1) ++ (c.drop (j + 1)).reverse) ++ [c.getD j 0]) := by show _ = _; rw [drop_rev8 hjz]; exact (List.append_assoc _ _ _).symm
              have HJ1 : Hid (1 ≤ j) := by show _ ≤ _; omega
              clear hcell hi hm1
              generalize (c.take 1 ++ c.take 1) ++ (c.drop (j + 1)).reverse = out at *
              generalize c.getD j 0 = l at *
              have ej : wrap64 ((j : Int) - 1) = (j : Int) - 1 := by unfold wrap64; omega
              go_wp2_with (at_builtin; refine wpList_append_own _ rfl _ _ 25 rfl wl.heap.size 3 i0 (.int .i64 0) 1 8 Tryd.underlying25 hi0 hz0 hz1 hz2 rfl (by decide) _ out.length (out.map (Value.int .i64)) rfl (World.ownsRow.alloc own _) _ 1 1 [.int .i64 l] rfl rfl (cell_one_new _ _ _) (by simp [Value.oneCell']) (by unfold maxLen; omega) (by omega) (by simp; omega) ?_; intro v2 w2' own2 gr2 hn2)
              go_roundg (gk - 1)
              case measure => have := HM2.out; omega
              case rel => exact ⟨j, (j : Int) - 1, by have := HM2.out; omega, by omega, by omega, .inr HJ1.out, by first | rfl | go_num, by rw [HRv.out]; exact own_onemore8 own2, (bel.alloc hs _).grown gr2 (by simp; omega) (fun j hj => (own.lt j hj).1)⟩
            · have hend : (c.length = 0 ∧ m = 0) ∨ m = 1 := by omega
              rw [bk_end hend] at own hlk
              obtain ⟨oa, oc, hov⟩ := own_form own
              subst hov
              have HRb : Hid (Rd wr (.slice oa (bk8 c).length oc) (bk8 c)) := own.rd (by omega)
              have HRg : Hid (Rds wr rv (L.map Prod.snd)) := OwnF.rds ⟨L, HBt.out.own, rfl⟩ (by rw [HRo.out.len]; exact H8.out.1) (fun z hz => by have h1 := lsum_mem hz; have h2 := HRo.out.sum; have h3 := H8.out.2.2.2; omega)
              have HIb : Hid (∀ x ∈ bk8 c, i64 x) := fun x hx => HR.out.2.2.1 x (mem_bk8.1 hx)
              have HFw : Hid (Few (L.map Prod.snd)) := HRo.out.few H8.out.2.2.1
              have HBr : Hid (Below w.heap.size w wr) := HBw.out wr HBt.out.bel
              have HC : Hid (∀ W, Below wr.heap.size wr W → W.cell? ⟨w.heap.size, 0, none⟩ = some (.int .i64 n) ∧ W.cell? ⟨w.heap.size, 1, none⟩ = some (.slice sa css.length sc) ∧ W.cell? ⟨w4.heap.size, 0, none⟩ = some (.int .i64 n) ∧ W.cell? ⟨w4.heap.size, 1, none⟩ = some rv) := fun W hW => ⟨(HX4.out W (Below.step HBt.out.bel hW)).1, (HX4.out W (Below.step HBt.out.bel hW)).2, (HBt.out.on hW).box.c0, (HBt.out.on hW).box.c1⟩
              have HK1 : Hid (∀ W, Below wr.heap.size wr W → Calls Tryd.prog 14 #[.agg #[.int .i64 n, .slice sa css.length sc], .slice (some ⟨bu, ou, none⟩) c.length fc] W fun e w' => e = .returned (.tuple #[.int .i64 (kn8 n css c), .int .i64 (shE (shp n css c))]) ∧ Below wr.heap.size wr w') := fun W hW => (kind_any n _ _ css c W (HR.out.1.below (Below.step HBr.out hW)) (HR.out.2.1.below (Below.step HBr.out hW)) HR.out.2.2.1 HR.out.2.2.2.2 (HR.out.2.2.2.1.at (Below.step HBr.out hW))).mono fun e w' h => ⟨h.1, Below.step hW h.2⟩
              have HK2 : Hid (∀ W, Below wr.heap.size wr W → Calls Tryd.prog 14 #[.agg #[.int .i64 n, rv], .slice oa (bk8 c).length oc] W fun e w' => e = .returned (.tuple #[.int .i64 (kn8 n css c), .int .i64 (shE (shp n css c))]) ∧ Below wr.heap.size wr w') := fun W hW => (kind_any n _ _ (L.map Prod.snd) (bk8 c) W (HRg.out.below hW) (HRb.out.below hW) HIb.out HFw.out (HR.out.2.2.2.1.at (Below.step HBr.out hW))).mono fun e w' h => ⟨by rw [h.1, ← HRo.out.kn, ← HRo.out.shp], Below.step hW h.2⟩
              have HB1 : Hid (∀ W, Below wr.heap.size wr W → Calls Tryd.prog 8 #[.agg #[.int .i64 n, .slice sa css.length sc], .slice (some ⟨bu, ou, none⟩) c.length fc] W fun e w' => e = .returned (.tuple #[.bool (shp n css c && blkB css c), .int .i64 (shE (shp n css c))]) ∧ Below wr.heap.size wr w') := fun W hW => (blocked_any n _ _ css c W (HR.out.1.below (Below.step HBr.out hW)) (HR.out.2.1.below (Below.step HBr.out hW))).mono fun e w' h => ⟨by rw [h.1, shB_shp, shBE_shE], Below.step hW h.2⟩
              have HB2 : Hid (∀ W, Below wr.heap.size wr W → Calls Tryd.prog 8 #[.agg #[.int .i64 n, rv], .slice oa (bk8 c).length oc] W fun e w' => e = .returned (.tuple #[.bool (shp n css c && blkB css c), .int .i64 (shE (shp n css c))]) ∧ Below wr.heap.size wr w') := fun W hW => (blocked_any n _ _ (L.map Prod.snd) (bk8 c) W (HRg.out.below hW) (HRb.out.below hW)).mono fun e w' h => ⟨by rw [h.1, shB_shp, shBE_shE, ← HRo.out.blk, ← HRo.out.shp], Below.step hW h.2⟩
              have HP1 : Hid (∀ W, Below wr.heap.size wr W → Calls Tryd.prog 15 #[.agg #[.int .i64 n, .slice sa css.length sc], .int .i64 1] W fun e w' => ∃ a9 c9, e = .returned (.slice a9 (ptnA n css (ngw 1)).length c9) ∧ Below W.heap.size W w') := fun W hW => (partners_any n _ css 1 W (HR.out.1.below (Below.step HBr.out hW))).mono fun e w' ⟨v9, he, ho, hb9⟩ => by
                obtain ⟨a9, c9, e9⟩ := own_form ho
                subst e9
                exact ⟨a9, c9, he, hb9⟩
              have HP2 : Hid (∀ W, Below wr.heap.size wr W → Calls Tryd.prog 15 #[.agg #[.int .i64 n, rv], .int .i64 1] W fun e w' => ∃ a9 c9, e = .returned (.slice a9 (ptnA n css (ngw 1)).length c9) ∧ Below W.heap.size W w') := fun W hW => (partners_any n _ (L.map Prod.snd) 1 W (HRg.out.below hW)).mono fun e w' ⟨v9, he, ho, hb9⟩ => by
                obtain ⟨a9, c9, e9⟩ := own_form ho
                subst e9
                exact ⟨a9, c9, by rw [he, HRo.out.ptn (n := n)], hb9⟩
              have hpl := ptnA_len n css (ngw 1)
              clear own hmz hm1 hi hend HRb HRg HIb HFw HRo HR H8 HB HBt HOb HX4 HRs HCn
              generalize kn8 n css c = z1 at *
              generalize shE (shp n css c) = z2 at *
              generalize (shp n css c && blkB css c) = z3 at *
              generalize (ptnA n css (ngw 1)).length = z4 at *
              generalize (bk8 c).length = z5 at *
              have e1 : (z1 == z1) = true := by simp
              have e2 : (z2 == z2) = true := by simp
              have e3 : (z3 == z3) = true := by simp
              obtain ⟨p0, p1, p2, p3⟩ := HC.out wr (Below.refl _ _)
              go_wp2_with fail
              refine (HK1.out _ (Below.refl _ _)).mono ?_
              rintro e y1 ⟨rfl, yb1⟩
              have Y1 : Hid (Below wr.heap.size wr y1) := yb1
              clear p0 p1 p2 p3 yb1
              obtain ⟨p0, p1, p2, p3⟩ := HC.out y1 Y1.out
              go_wp2_with fail
              refine (HK2.out _ Y1.out).mono ?_
              rintro e y2 ⟨rfl, yb2⟩
              have Y2 : Hid (Below wr.heap.size wr y2) := yb2
              clear p0 p1 p2 p3 yb2
              obtain ⟨p0, p1, p2, p3⟩ := HC.out y2 Y2.out
              go_wp2_with fail
              refine (HB1.out _ Y2.out).mono ?_
              rintro e y3 ⟨rfl, yb3⟩
              have Y3 : Hid (Below wr.heap.size wr y3) := yb3
              clear p0 p1 p2 p3 yb3
              obtain ⟨p0, p1, p2, p3⟩ := HC.out y3 Y3.out
              go_wp2_with fail
              refine (HB2.out _ Y3.out).mono ?_
              rintro e y4 ⟨rfl, yb4⟩
              have Y4 : Hid (Below wr.heap.size wr y4) := yb4
              clear p0 p1 p2 p3 yb4
              obtain ⟨p0, p1, p2, p3⟩ := HC.out y4 Y4.out
              have HC4 : Hid (∀ W, Below y4.heap.size y4 W → Below y4.heap.size y4 W ∧ W.cell? ⟨w.heap.size, 0, none⟩ = some (.int .i64 n) ∧ W.cell? ⟨w.heap.size, 1, none⟩ = some (.slice sa css.length sc) ∧ W.cell? ⟨w4.heap.size, 0, none⟩ = some (.int .i64 n) ∧ W.cell? ⟨w4.heap.size, 1, none⟩ = some rv) := fun W hW => ⟨hW, HC.out W (Below.step Y4.out hW)⟩
              have HQ1 : Hid (∀ W, Below y4.heap.size y4 W → Calls Tryd.prog 15 #[.agg #[.int .i64 n, .slice sa css.length sc], .int .i64 1] W fun e w' => ∃ a9 c9, e = .returned (.slice a9 z4 c9) ∧ Below y4.heap.size y4 w') := fun W hW => (HP1.out W (Below.step Y4.out hW)).mono fun e w' ⟨a9, c9, h1, h2⟩ => ⟨a9, c9, h1, Below.step hW h2⟩
              have HQ2 : Hid (∀ W, Below y4.heap.size y4 W → Calls Tryd.prog 15 #[.agg #[.int .i64 n, rv], .int .i64 1] W fun e w' => ∃ a9 c9, e = .returned (.slice a9 z4 c9) ∧ Below y4.heap.size y4 w') := fun W hW => (HP2.out W (Below.step Y4.out hW)).mono fun e w' ⟨a9, c9, h1, h2⟩ => ⟨a9, c9, h1, Below.step hW h2⟩
              have HFin : Hid (∀ W, Below y4.heap.size y4 W → Below w.heap.size w W) := fun W hW => Below.step HBr.out (Below.step Y4.out hW)
              have e4 : ((z4 : Int) == z4) = true := by simp
              clear HK1 HK2 HB1 HB2 HP1 HP2 HC
              go_wp2_with fail
              go_region_held (fun W => Below y4.heap.size y4 W ∧ W.cell? ⟨w.heap.size, 0, none⟩ = some (.int .i64 n) ∧ W.cell? ⟨w.heap.size, 1, none⟩ = some (.slice sa css.length sc) ∧ W.cell? ⟨w4.heap.size, 0, none⟩ = some (.int .i64 n) ∧ W.cell? ⟨w4.heap.size, 1, none⟩ = some rv) (first | exact HC4.out _ (Below.refl _ _).drew | exact HC4.out _ B6.out | exact HC4.out _ B5.out) (first
                | (have qq := B5.out; go_at_call 15; refine (HQ2.out _ B5.out).mono ?_; rintro e y6 ⟨a6, c6, rfl, hb6⟩; have B6 : Hid (Below y4.heap.size y4 y6) := hb6; clear hb6 qq)
                | (go_at_call 15; refine (HQ1.out _ (Below.refl _ _).drew).mono ?_; rintro e y5 ⟨a5, c5, rfl, hb5⟩; have B5 : Hid (Below y4.heap.size y4 y5) := hb5; clear hb5))
              go_wp2
              go_ret
              exact ⟨rfl, HFin.out _ B6.out⟩
end rupOrder
end Go.Proofs.YtkinilhapgagcabDoor
