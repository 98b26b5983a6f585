/-
  Join, walked.
-/
import Derived.Test.YtbnnoajpmmbpbaaRJoin
import Derived.Test.YtbnnoajpmmbpbaaConcat2
set_option linter.unusedSimpArgs false
set_option linter.unusedVariables false
namespace Go.Proofs.Ytbnnoajpmmbpbaa
open Go.RowKit

theorem row_app {base e s n : Nat} {w w7 : World} {o : Obj} {v rv : Value} {xs : List Value} (h : w.ownsRow base e s v n xs) (hg : (w.alloc o).grownBy w7 rv.ownBlock) (hne : v.ownBlock ≠ rv.ownBlock) : w7.ownsRow base e s v n xs := World.ownsRow.kept (World.ownsRow.alloc h o) hg (.inr hne)
theorem rows_ne {B1 B2 e s n g c m : Nat} {w : World} {xs xs' : List Value} {rv : Value} (h1 : w.ownsRow B1 e s (.slice (some ⟨g, 0, none⟩) n c) n xs) (h2 : w.ownsRow B2 e s rv m xs') (hg : g < B2) : (Value.slice (some ⟨g, 0, none⟩) n c).ownBlock ≠ rv.ownBlock := fun e => by
  have := (World.ownsRow.lt h2 g (by rw [← e]; rfl)).1
  omega

set_option maxHeartbeats 3200000 in
set_option maxRecDepth 100000 in
theorem cnfJoin_any (n : Int) (s : Value) (css : List (List Int)) (m : Int) (t : Value) (dss : List (List Int)) (w : World) (hr : Rds w s css) (hr2 : Rds w t dss) (hsum : (css.length + dss.length) * 24 ≤ 140737488351232) :
    Calls Try.prog 5 #[.agg #[.int .i64 n, s], .agg #[.int .i64 m, t]] w fun e w' => ∃ s', e = .returned (.tuple #[.agg #[.int .i64 (jnF n css m dss).1, s'], .int .i64 (jnF n css m dss).2.2]) ∧ OwnF w.heap.size w' s' (jnF n css m dss).2.1 ∧ Below w.heap.size w w' := by
  have HE : Hid (E2 w n s css m t dss (w3b w n s m t)) := E2.new hr hr2
  have y0 := HE.out.f0
  have y1 := HE.out.f1
  clear hr hr2
  cases hf : frm n css
  case false =>
    have HU : Hid (jnF n css m dss = (0, [], 1)) := by unfold jnF Hid; rw [hf]; rfl
    go_enter Try.func5, Try.ntmps5
    go_wp2_with fail
    refine (cnfFormed_any n s css _ HE.out.rf).mono ?_
    rw [hf]
    rintro e w1 ⟨rfl, bel1⟩
    have HE1 : Hid (E2 w n s css m t dss w1) := HE.out.on bel1
    have a0 := HE1.out.ans.c0
    have a1 := HE1.out.ans.c1
    have f0 := HE1.out.ans.f0
    have f1 := HE1.out.ans.f1
    go_wp2
    try simp only [Exit.inBlock, Exit.then]
    refine bodyPost_ret (ret_form rfl rfl ((HE1.out.ans.set0 _).set1 _)) rfl ?_
    exact ⟨_, by rw [HU.out]; rfl, by rw [HU.out]; exact OwnF.nil _ _, below_set (below_set HE1.out.bel (by omega) _ _) (by omega) _ _⟩
  cases hg : frm m dss
  case false =>
    have HU : Hid (jnF n css m dss = (0, [], 1)) := by unfold jnF Hid; rw [hf, hg]; rfl
    go_enter Try.func5, Try.ntmps5
    go_wp2_with fail
    refine (cnfFormed_any n s css _ HE.out.rf).mono ?_
    rw [hf]
    rintro e w1 ⟨rfl, bel1⟩
    have HE1 : Hid (E2 w n s css m t dss w1) := HE.out.on bel1
    have x0 := HE1.out.g0
    have x1 := HE1.out.g1
    clear HE bel1
    go_wp2_with fail
    refine (cnfFormed_any m t dss _ HE1.out.rg).mono ?_
    rw [hg]
    rintro e w2 ⟨rfl, bel2⟩
    have HE2 : Hid (E2 w n s css m t dss w2) := HE1.out.on bel2
    clear x0 x1 bel2
    have a0 := HE2.out.ans.c0
    have a1 := HE2.out.ans.c1
    have f0 := HE2.out.ans.f0
    have f1 := HE2.out.ans.f1
    go_wp2
    try simp only [Exit.inBlock, Exit.then]
    refine bodyPost_ret (ret_form rfl rfl ((HE2.out.ans.set0 _).set1 _)) rfl ?_
    exact ⟨_, by rw [HU.out]; rfl, by rw [HU.out]; exact OwnF.nil _ _, below_set (below_set HE2.out.bel (by omega) _ _) (by omega) _ _⟩
  have HU : Hid (jnF n css m dss = (max n m, css ++ dss, 0)) := by unfold jnF Hid; rw [hf, hg]; rfl
  obtain ⟨il, hil, hzl0, hzl1, hzl2⟩ := info_parts infoR
  obtain ⟨ta, tc, rfl, htc, htm, _⟩ := HE.out.rg.form
  go_enter Try.func5, Try.ntmps5
  go_wp2_with fail
  refine (cnfFormed_any n s css _ HE.out.rf).mono ?_
  rw [hf]
  rintro e w1 ⟨rfl, bel1⟩
  have HE1 : Hid (E2 w n s css m (.slice ta dss.length tc) dss w1) := HE.out.on bel1
  clear y0 y1
  have x0 := HE1.out.g0
  have x1 := HE1.out.g1
  clear HE bel1
  go_wp2_with fail
  refine (cnfFormed_any m _ dss _ HE1.out.rg).mono ?_
  rw [hg]
  rintro e w2 ⟨rfl, bel2⟩
  have HE2 : Hid (E2 w n s css m (.slice ta dss.length tc) dss w2) := HE1.out.on bel2
  clear HE1 bel2 x0 x1 hf hg
  obtain ⟨va, hva, ra, ssa⟩ := HE2.out.rf.vals
  obtain ⟨vb, hvb, rb, ssb⟩ := HE2.out.rg.vals
  obtain ⟨sa, sc, rfl, hsc, hsm, _⟩ := HE2.out.rf.form
  have OA : Hid (∀ u ∈ va, u.oneCell' = true) := fun u hu => by
    obtain ⟨j, hj, rfl⟩ := List.getElem_of_mem hu
    obtain ⟨u', e', r'⟩ := ra j (by omega)
    rw [List.getElem?_eq_getElem hj] at e'; cases e'; exact r'.one
  have OB : Hid (∀ u ∈ vb, u.oneCell' = true) := fun u hu => by
    obtain ⟨j, hj, rfl⟩ := List.getElem_of_mem hu
    obtain ⟨u', e', r'⟩ := rb j (by omega)
    rw [List.getElem?_eq_getElem hj] at e'; cases e'; exact r'.one
  have HRd : Hid (∀ j, j < (css ++ dss).length → ∃ u, (va ++ vb)[j]? = some u ∧ Rd w2 u ((css ++ dss).getD j [])) := fun j hj => by
    by_cases hj' : j < css.length
    · obtain ⟨u, h1, h2⟩ := ra j hj'
      refine ⟨u, by rw [List.getElem?_append_left (by rw [hva]; exact hj')]; exact h1, ?_⟩
      rw [show (css ++ dss).getD j [] = css.getD j [] by rw [List.getD_eq_getElem?_getD, List.getD_eq_getElem?_getD, List.getElem?_append_left hj']]
      exact h2
    · have hjl : j < css.length + dss.length := by simpa using hj
      obtain ⟨u, h1, h2⟩ := rb (j - css.length) (by omega)
      refine ⟨u, by rw [List.getElem?_append_right (by rw [hva]; omega), hva]; exact h1, ?_⟩
      rw [show (css ++ dss).getD j [] = dss.getD (j - css.length) [] by rw [List.getD_eq_getElem?_getD, List.getD_eq_getElem?_getD, List.getElem?_append_right (by omega)]]
      exact h2
  have b4 : Below w2.heap.size w2 ((w2.alloc (.cells #[.int .i64 (max n m), .slice none 0 0] 24)).alloc (.cells #[.slice sa css.length sc, .slice ta dss.length tc] 22)) := Below.step (below_box _ _) (below_box _ _)
  have SA : Hid ((Value.slice sa css.length sc = .slice none 0 0 ∧ css.length = 0 ∧ va = []) ∨ ∃ ad c, Value.slice sa css.length sc = .slice (some ad) css.length c ∧ va.length = css.length ∧ ∀ j u, va[j]? = some u → ((w2.alloc (.cells #[.int .i64 (max n m), .slice none 0 0] 24)).alloc (.cells #[.slice sa css.length sc, .slice ta dss.length tc] 22)).cell? (ad.add j) = some u) := by
    rcases ssa with h | ⟨ad, c, h1, h2, h3⟩
    · exact .inl h
    · exact .inr ⟨ad, c, h1, h2, fun j u hj => (b4.cell (p := ad.add j) (World.block_lt_of_cell? w2 _ (h3 j u hj))).trans (h3 j u hj)⟩
  have SB : Hid ((Value.slice ta dss.length tc = .slice none 0 0 ∧ dss.length = 0 ∧ vb = []) ∨ ∃ ad c, Value.slice ta dss.length tc = .slice (some ad) dss.length c ∧ vb.length = dss.length ∧ ∀ j u, vb[j]? = some u → ((w2.alloc (.cells #[.int .i64 (max n m), .slice none 0 0] 24)).alloc (.cells #[.slice sa css.length sc, .slice ta dss.length tc] 22)).cell? (ad.add j) = some u) := by
    rcases ssb with h | ⟨ad, c, h1, h2, h3⟩
    · exact .inl h
    · exact .inr ⟨ad, c, h1, h2, fun j u hj => (b4.cell (p := ad.add j) (World.block_lt_of_cell? w2 _ (h3 j u hj))).trans (h3 j u hj)⟩
  have HVL : Hid ((va ++ vb).length = (css ++ dss).length) := by unfold Hid; simp [hva, hvb]
  clear ra rb ssa ssb hva hvb b4
  have x0 := HE2.out.f0
  have x2 := HE2.out.g0
  have HB3 : Hid (Bd w2 (max n m) (w2.alloc (.cells #[.int .i64 (max n m), .slice none 0 0] 24)) (.slice none 0 0) []) := Bd.start w2 (max n m)
  have HE3 : Hid (E2 w n (.slice sa css.length sc) css m (.slice ta dss.length tc) dss (w2.alloc (.cells #[.int .i64 (max n m), .slice none 0 0] 24))) := HE2.out.on (below_box _ _)
  have y1 := HE3.out.f1
  have y3 := HE3.out.g1
  have C0 : Hid (((w2.alloc (.cells #[.int .i64 (max n m), .slice none 0 0] 24)).alloc (.cells #[.slice sa css.length sc, .slice ta dss.length tc] 22)).cell? ⟨w2.heap.size + 1, 0, none⟩ = some (.slice sa css.length sc)) := by
    have := box0 (w2.alloc (.cells #[.int .i64 (max n m), .slice none 0 0] 24)) (.slice sa css.length sc) (.slice ta dss.length tc) 22
    rwa [World.size_alloc] at this
  have C1 : Hid (((w2.alloc (.cells #[.int .i64 (max n m), .slice none 0 0] 24)).alloc (.cells #[.slice sa css.length sc, .slice ta dss.length tc] 22)).cell? ⟨w2.heap.size + 1, 1, none⟩ = some (.slice ta dss.length tc)) := by
    have := box1 (w2.alloc (.cells #[.int .i64 (max n m), .slice none 0 0] 24)) (.slice sa css.length sc) (.slice ta dss.length tc) 22
    rwa [World.size_alloc] at this
  have HB4 : Hid (Bd w2 (max n m) ((w2.alloc (.cells #[.int .i64 (max n m), .slice none 0 0] 24)).alloc (.cells #[.slice sa css.length sc, .slice ta dss.length tc] 22)) (.slice none 0 0) []) := HB3.out.on (below_box _ _)
  have HZ4 : Hid (w2.heap.size + 1 < ((w2.alloc (.cells #[.int .i64 (max n m), .slice none 0 0] 24)).alloc (.cells #[.slice sa css.length sc, .slice ta dss.length tc] 22)).heap.size) := by unfold Hid; simp
  go_wp2_with fail
  generalize (w2.alloc (.cells #[.int .i64 (max n m), .slice none 0 0] 24)).alloc (.cells #[.slice sa css.length sc, .slice ta dss.length tc] 22) = w4 at *
  refine (concat_any (w2.heap.size + 1) sa ta sc tc va vb css dss w4 C0 C1 SA SB OA OB hsum).mono ?_
  rintro e w5 ⟨v5, rfl, own5, bel5⟩
  obtain ⟨a5, c5, hv5⟩ := row_form own5
  subst hv5
  have HB5 : Hid (Bd w2 (max n m) w5 (.slice none 0 0) []) := HB4.out.on bel5
  have HO5 : Hid (w5.ownsRow w4.heap.size 39 1 (.slice a5 (css.length + dss.length) c5) (css.length + dss.length) (va ++ vb)) := own5
  have z4 := HZ4.out
  have z5 := bel5.size
  clear x0 x2 y1 y3 own5 bel5 HB3 HE3 HB4 C0 C1 SA SB OA OB
  generalize max n m = M at *
  have HCD : Hid ((css ++ dss).length = css.length + dss.length) := by unfold Hid; simp
  go_wp2
  go_loopg [31] (css.length + dss.length) (fun g i wq => ∃ (k : Nat) (L : List Cls) (rv : Value), k + g = css.length + dss.length ∧ i = .int .i64 k ∧ L.length ≤ k ∧ L.map Prod.snd = (css ++ dss).take k ∧ Hid (Bd w2 M wq rv L) ∧ Hid (wq.ownsRow w5.heap.size 39 1 rv L.length (L.map Prod.fst)) ∧ Hid (wq.ownsRow w4.heap.size 39 1 (.slice a5 (css.length + dss.length) c5) (css.length + dss.length) (va ++ vb)) ∧ w5.heap.size ≤ wq.heap.size)
  case atStart => exact ⟨0, [], _, by omega, rfl, Nat.le_refl _, by simp, HB5, World.ownsRow_nil _ _ _ _, HO5, Nat.le_refl _⟩
  case round =>
    obtain ⟨k, L, rv, hk, rfl, hLk, hL, HB, HR, HV, sq⟩ := hrel
    have HK : Hid (k + gk = css.length + dss.length) := hk
    have HL : Hid (L.map Prod.snd = (css ++ dss).take k) := hL
    have HEq : Hid (E2 w n (.slice sa css.length sc) css m (.slice ta dss.length tc) dss wr) := HE2.out.on HB.out.bel
    clear hL
    by_cases hlt : k < css.length + dss.length
    · obtain ⟨u, hu1, hu2⟩ := HRd.out k (by rw [HCD.out]; exact hlt)
      obtain ⟨g5, e5, hcm5⟩ : ∃ g5, a5 = some ⟨g5, 0, none⟩ ∧ wr.cell? ⟨g5, 0 + k, none⟩ = some u := by
        rcases HV.out.2 with ⟨_, h0⟩ | ⟨g, cap, cur, e', _⟩
        · omega
        · injection e' with e1 e2 e3
          subst e1
          subst e3
          exact ⟨g, rfl, by rw [Nat.zero_add, World.ownsRow.cellAt HV.out k (by omega)]; exact hu1⟩
      subst e5
      rw [Nat.zero_add] at hcm5
      have HG5 : Hid (g5 < w5.heap.size) := by
        rcases HO5.out.2 with ⟨e', _⟩ | ⟨g, cap, cur, e', _, hh, _⟩
        · cases e'
        · injection e' with e1 e2 e3
          injection e1 with e1
          injection e1 with e1
          unfold Hid
          rw [e1]; exact (Array.getElem?_eq_some_iff.1 hh).1
      have HUq : Hid (Rd wr u ((css ++ dss).getD k [])) := hu2.below HB.out.bel
      have HS : Hid ((css ++ dss).take (k + 1) = (css ++ dss).take k ++ [(css ++ dss).getD k []]) := take_succ_getD (css ++ dss) [] k (by rw [HCD.out]; exact hlt)
      obtain ⟨_, ua, uc, hu, _⟩ := hu2
      have d0 := HB.out.box.c0
      have d1 := HB.out.box.c1
      clear hk hu1
      generalize (css ++ dss).getD k [] = z at *
      subst hu
      have hD : w2.heap.size < w4.heap.size := by omega
      go_wp2_with fail
      go_region_law (first
        | (go_simp; go_at_call 22; refine (clone_any _ z _ (by first | exact HUq.out | exact HUq.out.below (Below.refl _ _).drew)).mono ?_; rintro e w6 ⟨u6, rfl, own6, bel6⟩; have BL6 : Hid (Below wr.heap.size wr w6) := (by first | exact bel6 | exact Below.step (Below.refl _ _).drew bel6); have O6 : Hid (Own wr.heap.size w6 u6 z) := own6; obtain ⟨a6, c6, hu6⟩ := own_form own6; subst hu6; have B6 : Hid (Bd w2 M w6 rv L) := HB.out.on BL6.out; have R6 : Hid (w6.ownsRow w5.heap.size 39 1 rv L.length (L.map Prod.fst)) := World.ownsRow.kept HR.out (grown_below BL6.out) (one_or _); have V6 : Hid (w6.ownsRow w4.heap.size 39 1 (.slice (some ⟨g5, 0, none⟩) (css.length + dss.length) c5) (css.length + dss.length) (va ++ vb)) := World.ownsRow.kept HV.out (grown_below BL6.out) (one_or _); have d06 := B6.out.box.c0; have d16 := B6.out.box.c1; have d17 : (w6.alloc (.cells #[.slice a6 z.length c6] 39)).cell? ⟨w2.heap.size, 1, none⟩ = some rv := (B6.out.on (below_box _ _)).box.c1; have s6 := BL6.out.size; clear own6 bel6; dsimp only)
        | (refine step_append_own rfl (.tmp 36) (.tmp 39) 22 rfl w5.heap.size 39 il (.slice none 0 0) 1 24 Try.underlying22 hil hzl0 hzl1 hzl2 rfl (by decide) rv L.length (L.map Prod.fst) (by simp [Act.eval, Act.put]) (World.ownsRow.alloc R6.out _) ⟨w6.heap.size, 0, none⟩ 1 1 [.slice a6 z.length c6] (by simp [Act.eval, Act.put]) rfl (cell_one_new _ _ _) (by simp [Value.oneCell']) (by unfold maxLen; omega) (by omega) (by simp; omega) ?_; intro v7 w7 own7 gr7; obtain ⟨a7, c7, hv7⟩ := row_form own7; subst hv7; have A7 : Hid (Bx2 w7 w2.heap.size 24 (.int .i64 M) rv ∧ Bd w2 M (w7.setCell ⟨w2.heap.size, 1, none⟩ (.slice a7 (L.length + 1) c7)) (.slice a7 (L.length + 1) c7) (L ++ [(.slice a6 z.length c6, z)])) := HB.out.app BL6.out O6.out (row_mono own7 (by omega)) gr7; have G7 : Hid (w7.ownsRow w5.heap.size 39 1 (.slice a7 (L.length + 1) c7) (L.length + 1) (L.map Prod.fst ++ [.slice a6 z.length c6])) := own7; have V7 : Hid (w7.ownsRow w4.heap.size 39 1 (.slice (some ⟨g5, 0, none⟩) (css.length + dss.length) c5) (css.length + dss.length) (va ++ vb)) := row_app V6.out gr7 (rows_ne V6.out R6.out HG5.out); have s7 := gr7.size; have g0 := A7.out.1.c0; have g1 := A7.out.1.c1; have g2 := A7.out.1.f1; clear own7 gr7))
      all_goals
        go_wp2
        go_roundg (gk - 1)
        case measure => have := HK.out; omega
        case rel => exact ⟨k + 1, L ++ [(Value.slice a6 z.length c6, z)], Value.slice a7 (L.length + 1) c7, by have := HK.out; omega, by go_num, by simp; omega, by rw [HS.out, List.map_append, HL.out]; rfl, A7.out.2, by unfold Hid; simpa using ownsRow_setCell_below G7.out (a := ⟨w2.heap.size, 1, none⟩) (show w2.heap.size < w5.heap.size by omega) (.slice a7 (L.length + 1) c7), ownsRow_setCell_below V7.out (a := ⟨w2.heap.size, 1, none⟩) hD _, by simp at s7 ⊢; omega⟩
    · obtain rfl : k = css.length + dss.length := by omega
      have HE : Hid (L.map Prod.snd = css ++ dss) := by have := HL.out; rw [← HCD.out, List.take_length] at this; exact this
      have p0 := HEq.out.ans.c0
      have p1 := HEq.out.ans.c1
      have p2 := HEq.out.ans.f0
      have p3 := HEq.out.ans.f1
      have d0 := HB.out.box.c0
      have d1 := HB.out.box.c1
      have HWz : Hid (w.heap.size ≤ w2.heap.size) := HE2.out.bel.size
      obtain ⟨ar, cr, hrv⟩ := row_form HB.out.own.row
      subst hrv
      clear hk
      go_wp2
      try simp only [Exit.inBlock, Exit.then]
      refine bodyPost_ret (ret_form rfl rfl ((HEq.out.ans.set0 _).set1 _)) rfl ?_
      refine ⟨.slice ar L.length cr, by rw [HU.out]; rfl, ?_, below_set (below_set HEq.out.bel (by omega) _ _) (by omega) _ _⟩
      rw [HU.out]
      have F0 : OwnF w.heap.size wr (.slice ar L.length cr) (css ++ dss) := ⟨L, HB.out.own.mono HWz.out, HE.out⟩
      exact (F0.set HEq.out.ans (by decide) (by decide) _ _).set (HEq.out.ans.set0 _) (by decide) (by decide) _ _

end Go.Proofs.Ytbnnoajpmmbpbaa
