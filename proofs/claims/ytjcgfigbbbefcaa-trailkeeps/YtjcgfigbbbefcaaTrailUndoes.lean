/-
  trail: Back undoes, walked.
  KEEP: set on app at below new trans refl start ap kept rd rds mono
-/
import Derived.Test.YtjcgfigbbbefcaaTrU
set_option linter.unusedSimpArgs false
set_option linter.unusedVariables false
namespace Go.Proofs.Ytjcgfigbbbefcaa
open Go Go.RowKit

theorem sayF_len {n : Nat} {R : List Pl} (h : okT n R) (hn : n ≤ 1048576) : (sayF n R).length * 8 ≤ 140737488351232 := by
  have := h.len
  have := now_le R
  unfold sayF
  simp only [List.length_append, List.length_map, mks_len, tris_len, List.length_cons, List.length_nil]
  omega
/-- a box of four cells of the statement's -/
theorem Bx4.below {W W' : World} {D : Nat} {t : TypeId} {x y z u : Value} (h : Bx4 W D t x y z u) (hb : Below W.heap.size W W') : Bx4 W' D t x y z u := (hb.block D h.lt).trans h
theorem own_keep {B : Nat} {w w' : World} {v : Value} {zs : List Int} {b : Nat} {s s' : Sl} (h : Own B w v zs) (hm : Mv w b s w' s') (hd : ∀ k, s.own b k → k < B) : Own B w' v zs :=
  row_kept h fun k hk => hm.block k ((h.lt k hk.symm).2) (fun ho => by have := hd k ho; have := (h.lt k hk.symm).1; omega)

set_option maxHeartbeats 6400000 in
theorem trailUndoes_walk (vars d : Int) (va vb : Value) (ahead behind : List TOp) (w : World) (ha : RdT w va ahead) (hb : RdT w vb behind) :
    Calls Try.prog 5 #[.agg #[.int .i64 vars, va, .int .i64 d, vb]] w fun e w' => e = .returned (.bool true) ∧ Below w.heap.size w w' := by
  have HA : Hid (RdT w va ahead) := ha
  have HB : Hid (RdT w vb behind) := hb
  obtain ⟨aa, ca, rfl, -⟩ := ha
  obtain ⟨ab, cb, rfl, -⟩ := hb
  have HBx0 : Hid (Bx4 (w.alloc (.cells #[.int .i64 vars, .slice aa ahead.length ca, .int .i64 d, .slice ab behind.length cb] 51)) w.heap.size 51 (.int .i64 vars) (.slice aa ahead.length ca) (.int .i64 d) (.slice ab behind.length cb)) := World.alloc_heap_new w _
  have HW0 : Hid (Below w.heap.size w (w.alloc (.cells #[.int .i64 vars, .slice aa ahead.length ca, .int .i64 d, .slice ab behind.length cb] 51))) := below_box _ _
  go_enter Try.func5, Try.ntmps5
  go_upto_region 1 with fail
  generalize w.alloc (.cells #[.int .i64 vars, .slice aa ahead.length ca, .int .i64 d, .slice ab behind.length cb] 51) = W0 at *
  have HN : Hid (nOf vars ≤ 40) := nOf_le vars
  have HBg : Hid (∀ W, Below W0.heap.size W0 W → Calls Try.prog 21 #[.int .i64 vars, .slice aa ahead.length ca] W fun e w' => ∃ b s, e = .returned (.pointer (some ⟨b, 0, none⟩)) ∧ Ls W w' b s (nOf vars) (actF (nOf vars) 0 [] ahead)) := fun W hW => begun_any vars _ ahead W (HA.out.below (HW0.out.trans (hW.mono HW0.out.size)))
  generalize nOf vars = n at *
  have HOK : Hid (okT n (actF n 0 [] ahead)) := actF_ok (okT.nil n)
  generalize actF n 0 [] ahead = R at *
  go_cut [3, 4] from 11 to 20 (fun p3 p4 wx => ∃ (b1 b2 : Nat) (s1 s2 : Sl), p3 = .pointer (some ⟨b1, 0, none⟩) ∧ p4 = .pointer (some ⟨b2, 0, none⟩) ∧ Ls W0 wx b1 s1 n R ∧ Ls W0 wx b2 s2 n R ∧ (∀ k, s1.own b1 k → ¬ s2.own b2 k))
  case first =>
    have a0 := HBx0.out.c0
    have a1 := HBx0.out.c1
    have HS : Hid (∀ W', Below W0.heap.size W0 W' → Below W0.heap.size W0 W' ∧ W'.cell? ⟨w.heap.size, 0, none⟩ = some (.int .i64 vars) ∧ W'.cell? ⟨w.heap.size, 1, none⟩ = some (.slice aa ahead.length ca)) := fun W' h => ⟨h, (h.cell (p := ⟨w.heap.size, 0, none⟩) (World.block_lt_of_cell? W0 _ a0)).trans a0, (h.cell (p := ⟨w.heap.size, 1, none⟩) (World.block_lt_of_cell? W0 _ a1)).trans a1⟩
    clear HA HB
    go_region_held (fun W' => Below W0.heap.size W0 W' ∧ W'.cell? ⟨w.heap.size, 0, none⟩ = some (.int .i64 vars) ∧ W'.cell? ⟨w.heap.size, 1, none⟩ = some (.slice aa ahead.length ca)) (first | exact HS.out _ (Below.refl _ _).drew | exact HS.out _ O3.out.bel | exact HS.out _ O4.out.1) (first
      | (go_at_call 21; refine (HBg.out _ (Below.refl _ _).drew).mono ?_; rintro e w3 ⟨b1, s1, rfl, l1⟩; have O3 : Hid (Ls W0 w3 b1 s1 n R) := ⟨Below.step (Below.refl _ _).drew l1.bel, l1.tr, l1.new⟩; clear l1)
      | (go_at_call 21; refine (HBg.out _ O3.out.bel).mono ?_; rintro e w4 ⟨b2, s2, rfl, l2⟩; have O4 : Hid (Below W0.heap.size W0 w4 ∧ Ls W0 w4 b1 s1 n R ∧ Ls W0 w4 b2 s2 n R ∧ (∀ k, s1.own b1 k → ¬ s2.own b2 k)) := ⟨Below.step O3.out.bel l2.bel, O3.out.below l2.bel, ⟨Below.step O3.out.bel l2.bel, l2.tr, fun k hk => Nat.le_trans O3.out.bel.size (l2.new k hk)⟩, fun k h1 h2 => by have := O3.out.tr.q.lt k h1; have := l2.new k h2; omega⟩; clear l2))
    all_goals
      go_wp2_with fail
      go_meet
      exact ⟨b1, b2, s1, s2, rfl, rfl, O4.out.2.1, O4.out.2.2.1, O4.out.2.2.2⟩
  case rest =>
  obtain ⟨b1, b2, s1, s2, rfl, rfl, l1, l2, hap⟩ := hcut
  generalize wc = w2 at *
  have L1 : Hid (Ls W0 w2 b1 s1 n R) := l1
  have L2 : Hid (Ls W0 w2 b2 s2 n R) := l2
  have HAp : Hid (∀ k, s1.own b1 k → ¬ s2.own b2 k) := hap
  clear l1 l2 hap HBg
  have HBx2 : Hid (Bx4 w2 w.heap.size 51 (.int .i64 vars) (.slice aa ahead.length ca) (.int .i64 d) (.slice ab behind.length cb)) := HBx0.out.below L1.out.bel
  have a2 := HBx2.out.c2
  go_wp2_with fail
  refine (trLevel_tr b1 s1 n R w2 L1.out.tr).mono ?_
  rintro e w3 ⟨rfl, rfl⟩
  go_wp2_with fail
  refine (trDecide_any b1 s1 n R d w3 L1.out.tr).mono ?_
  by_cases h0 : refL n R d = 0
  · rw [h0, show decF n R d = R ++ [(⟨d, now R + 1, -1⟩ : Pl)] by unfold decF; rw [if_pos h0]]
    rintro e w4 ⟨rfl, s4, ht4, hm4⟩
    have HV : Hid (valL n (R ++ [(⟨d, now R + 1, -1⟩ : Pl)]) d = 1) := valL_last h0
    have HNw : Hid (now (R ++ [(⟨d, now R + 1, -1⟩ : Pl)]) = now R + 1) := by show _ = _; rw [now_snoc]; simp [dcs]
    have HR0 : Hid (refL n R d = 0) := h0
    have L4 : Hid (Ls W0 w4 b1 s4 n (R ++ [(⟨d, now R + 1, -1⟩ : Pl)])) := L1.out.mv ht4 hm4
    have L24 : Hid (Ls W0 w4 b2 s2 n R) := ⟨L4.out.bel, L2.out.tr.other hm4 (fun k h1 h2 => HAp.out k h2 h1), L2.out.new⟩
    have HAp4 : Hid (∀ k, s4.own b1 k → ¬ s2.own b2 k) := fun k h1 h2 => by
      rcases hm4.new k h1 with h3 | h3
      · exact HAp.out k h3 h2
      · have := L2.out.tr.q.lt k h2; omega
    have HBx4 : Hid (Bx4 w4 w.heap.size 51 (.int .i64 vars) (.slice aa ahead.length ca) (.int .i64 d) (.slice ab behind.length cb)) := HBx0.out.below L4.out.bel
    have hnl : now R ≤ 40 := by have := now_le R; have := HOK.out.len; have := HN.out; omega
    clear ht4 hm4 L1 L2 HAp h0 HBx2 a2
    have a2 := HBx4.out.c2
    have a3 := HBx4.out.c3
    generalize hK : now R = K at *
    have HK : Hid (now R = K) := hK
    clear hK
    go_wp2_with fail
    refine (trLevel_tr b1 s4 n _ w4 L4.out.tr).mono ?_
    rw [HNw.out]
    rintro e w5 ⟨rfl, rfl⟩
    go_wp2_with fail
    refine (trValue_any b1 s4 n _ d w5 L4.out.tr).mono ?_
    rw [HV.out]
    rintro e w6 ⟨rfl, rfl⟩
    go_wp2_with fail
    refine (act_any b1 s4 n _ _ behind _ W0 w6 L4.out (HB.out.below HW0.out)).mono ?_
    rintro e w7 ⟨rfl, s7, hl7, hm7⟩
    have hok7 : okT n (actF n (↑K + 1) (R ++ [(⟨d, K + 1, -1⟩ : Pl)]) behind) := actF_ok L4.out.tr.ok
    have hpre := actF_pre (n := n) (fl := (K : Int) + 1) (R := R ++ [(⟨d, K + 1, -1⟩ : Pl)]) (ops := behind) (by rw [HNw.out]; omega) L4.out.tr.ok (List.prefix_refl _)
    generalize actF n (↑K + 1) (R ++ [(⟨d, K + 1, -1⟩ : Pl)]) behind = S at *
    rw [← HK.out] at hpre
    obtain ⟨hin, hcut, hlt, T, rfl⟩ := undone hok7 hpre
    obtain ⟨hbo, hbf, hbe⟩ := backO_undone hin hcut
    have HBk : Hid (backO (R ++ (⟨d, now R + 1, -1⟩ : Pl) :: T) (now R) = (d :: T.map Pl.lit).reverse ∧ backF (R ++ (⟨d, now R + 1, -1⟩ : Pl) :: T) (now R) = R ∧ backE (R ++ (⟨d, now R + 1, -1⟩ : Pl) :: T) (now R) = 0) := ⟨hbo, hbf, hbe⟩
    have L7 : Hid (Ls W0 w7 b1 s7 n (R ++ (⟨d, now R + 1, -1⟩ : Pl) :: T)) := hl7
    have L27 : Hid (Ls W0 w7 b2 s2 n R) := ⟨L7.out.bel, L24.out.tr.other hm7 (fun k h1 h2 => HAp4.out k h2 h1), L24.out.new⟩
    have HAp7 : Hid (∀ k, s7.own b1 k → ¬ s2.own b2 k) := fun k h1 h2 => by
      rcases hm7.new k h1 with h3 | h3
      · exact HAp4.out k h3 h2
      · have := L24.out.tr.q.lt k h2; omega
    have HLen : Hid ((R ++ (⟨d, now R + 1, -1⟩ : Pl) :: T).length ≤ n) := hok7.len
    clear hl7 hm7 hok7 hpre hin hcut hlt hbo hbf hbe L4 L24 HAp4 HV HNw HR0 a2 a3 HBx4
    have HLits : Hid ((R ++ (⟨d, now R + 1, -1⟩ : Pl) :: T).map Pl.lit = R.map Pl.lit ++ d :: T.map Pl.lit) := by show _ = _; simp
    go_wp2_with fail
    refine (trLits_any b1 s7 n _ w7 L7.out.tr).mono ?_
    rw [HLits.out]
    rintro e w8 ⟨u8, rfl, own8, bel8⟩
    have L8 : Hid (Ls W0 w8 b1 s7 n (R ++ (⟨d, now R + 1, -1⟩ : Pl) :: T)) := L7.out.below bel8
    have L28 : Hid (Ls W0 w8 b2 s2 n R) := L27.out.below bel8
    have HO8 : Hid (Own w7.heap.size w8 u8 (R.map Pl.lit ++ d :: T.map Pl.lit)) := own8
    have HS8 : Hid (w7.heap.size ≤ w8.heap.size) := bel8.size
    have HLt : Hid (∀ k, s7.own b1 k → k < w7.heap.size) := L7.out.tr.q.lt
    clear own8 bel8 L27 L7
    go_wp2_with fail
    refine (trLits_any b2 s2 n R w8 L28.out.tr).mono ?_
    rintro e w9 ⟨u9, rfl, own9, bel9⟩
    obtain ⟨a9, c9, rfl⟩ := own_form own9
    have L9 : Hid (Ls W0 w9 b1 s7 n (R ++ (⟨d, now R + 1, -1⟩ : Pl) :: T)) := L8.out.below bel9
    have L29 : Hid (Ls W0 w9 b2 s2 n R) := L28.out.below bel9
    have HO9 : Hid (Own w7.heap.size w9 u8 (R.map Pl.lit ++ d :: T.map Pl.lit)) := HO8.out.below bel9
    clear own9 bel9 L8 L28 HO8
    go_wp2_with fail
    refine (trBack_any b1 s7 n _ _ w9 L9.out.tr).mono ?_
    rw [← HK.out, HBk.out.1, HBk.out.2.1, HBk.out.2.2]
    rintro e w10 ⟨u10, s10, rfl, own10, ht10, hm10, hsub⟩
    have L10 : Hid (Ls W0 w10 b1 s10 n R) := L9.out.mv ht10 hm10
    have L210 : Hid (Ls W0 w10 b2 s2 n R) := ⟨L10.out.bel, L29.out.tr.other hm10 (fun k h1 h2 => HAp7.out k h2 h1), L29.out.new⟩
    have HO10 : Hid (Own w7.heap.size w10 u8 (R.map Pl.lit ++ d :: T.map Pl.lit)) := own_keep HO9.out hm10 HLt.out
    have HU10 : Hid (Own w9.heap.size w10 u10 (d :: T.map Pl.lit).reverse) := own10
    have HBx10 : Hid (Bx4 w10 w.heap.size 51 (.int .i64 vars) (.slice aa ahead.length ca) (.int .i64 d) (.slice ab behind.length cb)) := HBx0.out.below L10.out.bel
    obtain ⟨g8, c8, e8, _⟩ := row_some HO10.out (by simp; omega)
    obtain ⟨g10, c10, e10, _⟩ := row_some HU10.out (by simp)
    subst e8 e10
    have HLO : Hid ((d :: T.map Pl.lit).reverse.length = T.length + 1 ∧ (R.map Pl.lit ++ d :: T.map Pl.lit).length = R.length + (T.length + 1) ∧ (R.map Pl.lit).length = R.length) := ⟨by simp, by simp, by simp⟩
    rw [HLO.out.1] at HU10 ⊢
    rw [HLO.out.2.1] at HO10 ⊢
    have htl : R.length + (T.length + 1) ≤ 40 := by have h1 := HLen.out; have h2 := HN.out; rw [List.length_append, List.length_cons] at h1; omega
    clear own10 ht10 hm10 hsub L9 L29 HO9 HAp7 HBk HLits HLen
    generalize hRL : R.length = r at *
    generalize hTL : T.length = q at *
    have HRT : Hid (R.length = r ∧ T.length = q) := ⟨hRL, hTL⟩
    clear hRL hTL
    go_wp2
    have HEq : Hid (∀ i j : Nat, i + j = r + q → i < q + 1 → (d :: T.map Pl.lit).reverse.getD i 0 = (R.map Pl.lit ++ d :: T.map Pl.lit).getD j 0) := by
      intro i j hij hi
      have e1 : (d :: T.map Pl.lit).reverse.getD i 0 = (R.map Pl.lit ++ d :: T.map Pl.lit).reverse.getD i 0 := by
        rw [List.reverse_append, List.getD_eq_getElem?_getD, List.getD_eq_getElem?_getD, List.getElem?_append_left (by rw [HLO.out.1]; exact hi)]
      rw [e1, List.getD_eq_getElem?_getD, List.getD_eq_getElem?_getD, List.getElem?_reverse (by rw [HLO.out.2.1]; omega), HLO.out.2.1]
      congr 2; omega
    have HLast : Hid ((d :: T.map Pl.lit).reverse.getD q 0 = d) := by
      show _ = _
      rw [HEq.out q r (by omega) (by omega)]
      have := HLO.out.2.2
      rw [List.getD_eq_getElem?_getD, List.getElem?_append_right (by omega), this]; simp
    generalize (d :: T.map Pl.lit).reverse = O at *
    generalize R.map Pl.lit ++ d :: T.map Pl.lit = B0 at *
    generalize hm : r + (q + 1) = m at *
    have HM : Hid (m = r + q + 1) := by show _ = _; omega
    clear hm
    go_loopg [10] (q + 1) (fun g i' wr => ∃ i : Nat, i + g = q + 1 ∧ i' = .int .i64 i ∧ Below w10.heap.size w10 wr)
    case atStart => exact ⟨0, by omega, rfl, Below.refl _ _⟩
    case round =>
      obtain ⟨i, hi, rfl, bel⟩ := hrel
      have HI : Hid (i + gk = q + 1) := hi
      clear hi
      have HBl : Hid (Below w10.heap.size w10 wr) := bel
      by_cases hlt : i < q + 1
      · obtain ⟨j, hj⟩ : ∃ j : Nat, i + j = r + q := ⟨r + q - i, by omega⟩
        have o1 := HU10.out.below bel
        have o2 := HO10.out.below bel
        have l1 := HLO.out.1
        have l2 := HLO.out.2.1
        obtain ⟨g1, e1, d0⟩ := rd_cell (zs := O) (by rw [l1]; exact o1) (j := i) (by rw [l1]; exact hlt)
        obtain ⟨g2, e2, d1⟩ := rd_cell (zs := B0) (by rw [l2]; exact o2) (j := j) (by rw [l2, HM.out]; omega)
        injection e1 with e1
        injection e1 with e1
        injection e2 with e2
        injection e2 with e2
        subst e1 e2
        rw [HEq.out i j hj hlt] at d0
        have hjm : j < m := by rw [HM.out]; omega
        have hw1 : ((m : Int) - 1 - (i : Int)) = (j : Int) := by have := HM.out; omega
        have hm2 : m ≤ 41 := by have := HM.out; omega
        clear o1 o2 l1 l2 bel hj
        generalize B0.getD j 0 = z at *
        go_upto_region 17 with fail
        go_quiet (fail)
        go_wp2
        go_roundg (gk - 1)
        case measure => have := HI.out; omega
        case rel => exact ⟨i + 1, by have := HI.out; omega, by go_num, Below.step HBl.out (below_drewN _ _)⟩
      · obtain rfl : i = q + 1 := by have := HI.out; omega
        have l1 := HLO.out.1
        obtain ⟨g1, e1, d0⟩ := rd_cell (zs := O) (by rw [l1]; exact HU10.out.below bel) (j := q) (by rw [l1]; omega)
        injection e1 with e1
        injection e1 with e1
        subst e1
        rw [HLast.out] at d0
        have a2 := (HBx10.out.below bel).c2
        have HS : Hid (∀ W', Below wr.heap.size wr W' → Below wr.heap.size wr W' ∧ W'.cell? ⟨g10, q, none⟩ = some (.int .i64 d) ∧ W'.cell? ⟨w.heap.size, 2, none⟩ = some (.int .i64 d)) := fun W' h => ⟨h, (h.cell (p := ⟨g10, q, none⟩) (World.block_lt_of_cell? wr _ d0)).trans d0, (h.cell (p := ⟨w.heap.size, 2, none⟩) (World.block_lt_of_cell? wr _ a2)).trans a2⟩
        have HY1 : Hid (∀ W', Below wr.heap.size wr W' → Calls Try.prog 24 #[.pointer (some ⟨b1, 0, none⟩)] W' fun e w' => ∃ u, e = .returned u ∧ Own W'.heap.size w' u (sayF n R) ∧ Below W'.heap.size W' w') := fun W' h => sayings_any b1 s10 n R W' (L10.out.tr.below (Below.step bel h))
        have HY2 : Hid (∀ W', Below wr.heap.size wr W' → Calls Try.prog 24 #[.pointer (some ⟨b2, 0, none⟩)] W' fun e w' => ∃ u, e = .returned u ∧ Own W'.heap.size w' u (sayF n R) ∧ Below W'.heap.size W' w') := fun W' h => sayings_any b2 s2 n R W' (L210.out.tr.below (Below.step bel h))
        have HS8 : Hid ((sayF n R).length * 8 ≤ 140737488351232) := sayF_len HOK.out (by have := HN.out; omega)
        have hq40 : q ≤ 40 := by have := HM.out; omega
        have hwr : IntKind.i64.wrap (q : Int) = q := by rw [IntKind.wrap_i64]; omega
        have HW10 : Hid (Below w.heap.size w wr) := HW0.out.trans ((Below.step L10.out.bel bel).mono HW0.out.size)
        clear bel hlt l1 L10 L210 HBx10 HU10 HO10 HLO HEq HLast HBx0 HW0 HA HB htl
        go_upto_region 19 with fail
        go_region_held (fun W' => Below wr.heap.size wr W' ∧ W'.cell? ⟨g10, q, none⟩ = some (.int .i64 d) ∧ W'.cell? ⟨w.heap.size, 2, none⟩ = some (.int .i64 d)) (first | exact HS.out _ (Below.refl _ _).drew | exact HS.out _ O3.out.2 | exact HS.out _ O4.out.2.2 | exact HS.out _ O5.out) (first
          | (have h4 := O4; clear h4; go_at_call 23; refine (sameSelf_any u13 u14 (sayF n R) w14 (O4.out.1.rd HS8.out) (O4.out.2.1.rd HS8.out)).mono ?_; rintro e w15 ⟨rfl, bel15⟩; have O5 : Hid (Below wr.heap.size wr w15) := Below.step O4.out.2.2 bel15; clear bel15)
          | (have h3 := O3; clear h3; go_at_call 24; refine (HY2.out _ O3.out.2).mono ?_; rintro e w14 ⟨u14, rfl, own14, bel14⟩; have O4 : Hid (Own wr.heap.size w14 u13 (sayF n R) ∧ Own w13.heap.size w14 u14 (sayF n R) ∧ Below wr.heap.size wr w14) := ⟨O3.out.1.below bel14, own14, Below.step O3.out.2 bel14⟩; clear own14 bel14)
          | (go_at_call 24; refine (HY1.out _ (Below.refl _ _).drew).mono ?_; rintro e w13 ⟨u13, rfl, own13, bel13⟩; have O3 : Hid (Own wr.heap.size w13 u13 (sayF n R) ∧ Below wr.heap.size wr w13) := ⟨own13, Below.step (Below.refl _ _).drew bel13⟩; clear own13 bel13))
        all_goals
          go_wp2
          go_ret
          exact ⟨rfl, HW10.out.trans (O5.out.mono HW10.out.size)⟩
  · rw [show decF n R d = R by unfold decF; rw [if_neg h0]]
    rintro e w4 ⟨rfl, s4, ht4, hm4⟩
    have hz : (refL n R d == 0) = false := by simp [h0]
    have L4 : Hid (Ls W0 w4 b1 s4 n R) := L1.out.mv ht4 hm4
    have L24 : Hid (Ls W0 w4 b2 s2 n R) := ⟨L4.out.bel, L2.out.tr.other hm4 (fun k h1 h2 => HAp.out k h2 h1), L2.out.new⟩
    have HS8 : Hid ((sayF n R).length * 8 ≤ 140737488351232) := sayF_len HOK.out (by have := HN.out; omega)
    clear ht4 hm4 L1 L2 HAp h0
    generalize refL n R d = z at *
    go_wp2_with fail
    refine (sayings_any b1 s4 n R w4 L4.out.tr).mono ?_
    rintro e w5 ⟨u5, rfl, own5, bel5⟩
    have L25 : Hid (Ls W0 w5 b2 s2 n R) := L24.out.below bel5
    have HO5 : Hid (Own w4.heap.size w5 u5 (sayF n R)) := own5
    clear own5 bel5 L4 L24
    go_wp2_with fail
    refine (sayings_any b2 s2 n R w5 L25.out.tr).mono ?_
    rintro e w6 ⟨u6, rfl, own6, bel6⟩
    have HB6 : Hid (Below W0.heap.size W0 w6) := Below.step L25.out.bel bel6
    have HC : Hid (Calls Try.prog 23 #[u5, u6] w6 fun e w' => e = .returned (.bool true) ∧ Below w6.heap.size w6 w') := sameSelf_any u5 u6 (sayF n R) w6 ((HO5.out.below bel6).rd HS8.out) (own6.rd HS8.out)
    clear own6 bel6 HO5 L25
    go_wp2_with fail
    refine HC.out.mono ?_
    rintro e w7 ⟨rfl, bel7⟩
    have HB7 : Hid (Below W0.heap.size W0 w7) := Below.step HB6.out bel7
    clear bel7 HB6 HC
    go_wp2_with fail
    refine (live_any w7).mono ?_
    rintro e w8 ⟨rfl, bel8⟩
    have HB8 : Hid (Below w.heap.size w w8) := HW0.out.trans ((Below.step HB7.out bel8).mono HW0.out.size)
    clear bel8 HB7
    go_wp2
    go_ret
    exact ⟨rfl, HB8.out⟩
end Go.Proofs.Ytjcgfigbbbefcaa
