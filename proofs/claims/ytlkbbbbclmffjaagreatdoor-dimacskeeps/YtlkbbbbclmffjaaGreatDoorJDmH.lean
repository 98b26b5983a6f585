/-
  joined: DmH AnT
-/
import Derived.Test.YtlkbbbbclmffjaaGreatDoorKDmS
import Derived.Test.YtlkbbbbclmffjaaGreatDoorJRdV
import Derived.Deep.RegionHeld
import Derived.Deep.RegionWith
import Derived.Deep.QuietTactic
import Derived.Deep.CutRange
import Derived.Test.YtlkbbbbclmffjaaGreatDoorKQuietX
set_option linter.unusedSimpArgs false
set_option linter.unusedVariables false
namespace Go.Proofs.YtlkbbbbclmffjaaGreatDoor
open Go Go.RowKit

set_option maxHeartbeats 3200000 in
set_option maxRecDepth 100000 in
theorem rHeading_any (B : Nat) (v : Value) (l : List Wrd) (w : World) (ho : OwnW B w v l) (hl : l.length ≤ 1099511627776) :
    Calls Tryz.prog 62 #[v] w fun e w' => e = .returned (.int .i64 ((l.takeWhile (fun x => x.2 == (l.getD 0 ([], 0)).2)).length : Int)) ∧ Below w.heap.size w w' := by
  have HO : Hid (OwnW B w v l) := ho
  obtain ⟨a, c, rfl, hc, hm, _⟩ := ho.form
  obtain ⟨R, hR⟩ : ∃ R, R = (l.takeWhile (fun x => x.2 == (l.getD 0 ([], 0)).2)).length := ⟨_, rfl⟩
  rw [← hR]
  have HR : Hid ((l.takeWhile (fun x => x.2 == (l.getD 0 ([], 0)).2)).length = R) := hR.symm
  clear ho hR
  go_enter Tryz.func62, Tryz.ntmps62
  go_wp2
  go_loopg [3] l.length (fun g i wr => ∃ k : Nat, k + g = l.length ∧ i = .int .i64 k ∧ Hid ((l.take k).all (fun x => x.2 == (l.getD 0 ([], 0)).2) = true) ∧ Hid (Below w.heap.size w wr))
  case atStart => exact ⟨0, by omega, rfl, by show _ = _; simp, Below.refl _ _⟩
  case round =>
    obtain ⟨k, hk, rfl, HA, BL⟩ := hrel
    have HK : Hid (k + gk = l.length) := hk
    by_cases hlt : k < l.length
    · obtain ⟨_, _, e', _, _, hcell⟩ := (HO.out.below BL.out).form
      obtain ⟨g, hg, hgl, hc0, hc1⟩ := hcell k hlt
      obtain ⟨g', hg', _, hd0, hd1⟩ := hcell 0 (by omega)
      have e3 : a = some ⟨g, 0, none⟩ := by injection e' with q1 q2 q3; rw [q1]; exact hg
      have e4 : g' = g := by have := hg.symm.trans hg'; injection this with q; injection q with q; exact q.symm
      subst e4
      clear hcell e' hg hg'
      subst e3
      have hd2 : wr.cell? ⟨g', 1, none⟩ = some (.int .i64 ((l.getD 0 ([], 0)).2 : Int)) := by simpa using hd1
      have HT : Hid (l.take (k + 1) = l.take k ++ [l.getD k ([], 0)]) := take_succ_getD l ([], 0) k hlt
      have HW : Hid (∀ (h : ((l.getD k ([], 0)).2 == (l.getD 0 ([], 0)).2) = false), k = R) := fun h => by
        rw [← HR.out]
        exact (tw_len _ ([], 0) l k (by omega) HA.out (fun _ => h)).symm
      clear hk hd0 hd1
      generalize l.getD k ([], 0) = x at *
      obtain ⟨y, hy⟩ : ∃ y, y = (l.getD 0 ([], 0)).2 := ⟨_, rfl⟩
      rw [← hy] at hd2 HA HW
      have HY : Hid (y = (l.getD 0 ([], 0)).2) := hy
      clear hy
      obtain ⟨xt, xn⟩ := x
      dsimp only at *
      cases hq : (xn == y)
      · have hqi : ((xn : Int) == (y : Int)) = false := beq_eq_false_iff_ne.2 (by have : xn ≠ y := by simpa using hq
                                                                                  omega)
        have HE : Hid (k = R) := HW.out hq
        clear hq HW
        go_upto_region 2 with fail
        go_quiet (fail)
        go_wp2
        go_ret
        exact ⟨ret_int (by rw [HE.out]), BL.out.trans ((below_drewN _ _).mono BL.out.size)⟩
      · have hqe : xn = y := by simpa using hq
        have hqi : ((xn : Int) == (y : Int)) = true := by rw [hqe]; simp
        have HA2 : Hid ((l.take (k + 1)).all (fun x => x.2 == (l.getD 0 ([], 0)).2) = true) := by
          show _ = _
          rw [HT.out, List.all_append, ← HY.out, HA.out]; simp [hqe]
        clear hq hqe HW
        go_upto_region 2 with fail
        go_quiet (fail)
        go_wp2
        go_roundg (gk - 1)
        case measure => have := HK.out; omega
        case rel => exact ⟨k + 1, by have := HK.out; omega, by go_num, HA2.out, BL.out.trans ((below_drewN _ _).mono BL.out.size)⟩
    · obtain rfl : k = l.length := by omega
      have HE : Hid (l.length = R) := by
        show _ = _
        rw [← HR.out]
        exact (tw_len _ ([], 0) l l.length (Nat.le_refl _) HA.out (fun h => by omega)).symm
      clear hk
      go_upto_region 2 with fail
      go_quiet (fail)
      go_wp2
      go_ret
      exact ⟨ret_int (by rw [HE.out]), BL.out.trans ((below_drewN _ _).mono BL.out.size)⟩

set_option maxHeartbeats 6400000 in
set_option maxRecDepth 100000 in
theorem rHead_any (B : Nat) (v : Value) (ws : List (List UInt8)) (kk : Nat) (tl : List Wrd) (w : World) (ho : OwnW B w v (ws.map (fun x => (x, kk)) ++ tl)) (hne : ws ≠ []) (htl : ∀ x ∈ tl, x.2 ≠ kk) (hl : (ws.map (fun x => (x, kk)) ++ tl).length ≤ 1099511627776) (hw : ∀ x ∈ ws, x.length ≤ 1099511627776) :
    Calls Tryz.prog 44 #[v] w fun e w' => e = .returned (.bool (headW ws).isSome) ∧ Below w.heap.size w w' := by
  have HO : Hid (OwnW B w v (ws.map (fun x => (x, kk)) ++ tl)) := ho
  have HHd := rHeading_any B v _ w ho hl
  have e0 : ((ws.map (fun x => (x, kk)) ++ tl).getD 0 ([], 0)).2 = kk := by
    cases ws with
    | nil => exact absurd rfl hne
    | cons a r => rfl
  rw [e0, hdg_len ws htl] at HHd
  have HHd : Hid (Calls Tryz.prog 62 #[v] w fun e w' => e = .returned (.int .i64 (ws.length : Int)) ∧ Below w.heap.size w w') := HHd
  obtain ⟨R, hR⟩ : ∃ R, R = (headW ws).isSome := ⟨_, rfl⟩
  rw [← hR]
  obtain ⟨a, c, hv, hc, hm, hcell⟩ := ho.form
  have hlen2 : (ws.map (fun x => (x, kk)) ++ tl).length = ws.length + tl.length := by simp
  obtain ⟨N, hN⟩ : ∃ N, N = (ws.map (fun x => (x, kk)) ++ tl).length := ⟨_, rfl⟩
  rw [← hN] at hv hc hl hcell hlen2
  clear e0 hne hN
  by_cases h4 : ws.length = 4
  case neg =>
    have HE : Hid (R = false) := by show _ = _; rw [hR, headW_n4 h4]; rfl
    have hq : ((ws.length : Int) != 4) = true := by rw [bne, beq_eq_false_iff_ne.2 (by omega)]; rfl
    clear hR h4 hcell ho hlen2 HO
    subst hv
    go_enter Tryz.func44, Tryz.ntmps44
    go_wp2_with (go_at_call 62; refine HHd.out.mono ?_; rintro e w1 ⟨rfl, bel1⟩)
    go_ret
    exact ⟨ret_bool HE.out.symm, bel1⟩
  match ws, h4 with
  | [p, q, x, y], _ =>
    have hge : 4 ≤ N := by rw [hlen2]; simp
    clear hlen2
    obtain ⟨g, hg, hgl, c0, _⟩ := hcell 0 (by omega)
    obtain ⟨g1, hg1, _, c1, _⟩ := hcell 1 (by omega)
    obtain ⟨g2, hg2, _, c2, _⟩ := hcell 2 (by omega)
    obtain ⟨g3, hg3, _, c3, _⟩ := hcell 3 (by omega)
    have f1 : g1 = g := by have := hg.symm.trans hg1; injection this with q; injection q with q; exact q.symm
    have f2 : g2 = g := by have := hg.symm.trans hg2; injection this with q; injection q with q; exact q.symm
    have f3 : g3 = g := by have := hg.symm.trans hg3; injection this with q; injection q with q; exact q.symm
    subst f1; subst f2; subst f3
    obtain ⟨P, hP⟩ : ∃ P : ByteArray, P = ⟨p.toArray⟩ := ⟨_, rfl⟩
    obtain ⟨Q, hQ⟩ : ∃ Q : ByteArray, Q = ⟨q.toArray⟩ := ⟨_, rfl⟩
    obtain ⟨X, hX⟩ : ∃ X : ByteArray, X = ⟨x.toArray⟩ := ⟨_, rfl⟩
    obtain ⟨Y, hY⟩ : ∃ Y : ByteArray, Y = ⟨y.toArray⟩ := ⟨_, rfl⟩
    have HP : P.data.toList = p := by rw [hP]
    have HQ : Q.data.toList = q := by rw [hQ]
    have HX : X.data.toList = x := by rw [hX]
    have HY : Y.data.toList = y := by rw [hY]
    have hXs : X.size ≤ 1099511627776 := by rw [← ba_len, HX]; exact hw x (by simp)
    have hYs : Y.size ≤ 1099511627776 := by rw [← ba_len, HY]; exact hw y (by simp)
    have HC : Hid (∀ W : World, Below w.heap.size w W → W.cell? ⟨g3, 0, none⟩ = some (.string P) ∧ W.cell? ⟨g3, 2, none⟩ = some (.string Q) ∧ W.cell? ⟨g3, 4, none⟩ = some (.string X) ∧ W.cell? ⟨g3, 6, none⟩ = some (.string Y)) := fun W hb => by
      refine ⟨(hb.cell (p := ⟨g3, 0, none⟩) hgl).trans ?_, (hb.cell (p := ⟨g3, 2, none⟩) hgl).trans ?_, (hb.cell (p := ⟨g3, 4, none⟩) hgl).trans ?_, (hb.cell (p := ⟨g3, 6, none⟩) hgl).trans ?_⟩
      · rw [hP]; exact c0
      · rw [hQ]; exact c1
      · rw [hX]; exact c2
      · rw [hY]; exact c3
    have hqp : (P.toList == [112]) = (p == [112]) := by rw [ByteArray.toList_eq, HP]
    have hqq : (Q.toList == [99, 110, 102]) = (q == [99, 110, 102]) := by rw [ByteArray.toList_eq, HQ]
    have nqp : (P.toList != [112]) = !(p == [112]) := by rw [bne, hqp]
    have nqq : (Q.toList != [99, 110, 102]) = !(q == [99, 110, 102]) := by rw [bne, hqq]
    have HTx := fun W => rTens_any X W hXs
    have HTy := fun W => rTens_any Y W hYs
    rw [HX] at HTx
    rw [HY] at HTy
    subst hv
    subst hg
    clear hP hQ hX hY c0 c1 c2 c3 hcell ho hg1 hg2 hg3 HO htl hw HP HQ hgl
    have h4b : ((([p, q, x, y] : List (List UInt8)).length : Int) != 4) = false := rfl
    have HHd : Hid (Calls Tryz.prog 62 #[.slice (some ⟨g3, 0, none⟩) N c] w fun e w' => e = .returned (.int .i64 4) ∧ Below w.heap.size w w') := HHd
    cases hp : (p == [112])
    · have HE : Hid (R = false) := by show _ = _; rw [hR]; simp only [headW, hp]; rfl
      rw [hp] at hqp nqp
      clear hR HTx HTy hqq nqq
      go_enter Tryz.func44, Tryz.ntmps44
      go_wp2_with (go_at_call 62; refine HHd.out.mono ?_; rintro e w1 ⟨rfl, bel1⟩; obtain ⟨d0, d1, d2, d3⟩ := HC.out w1 bel1)
      go_ret
      exact ⟨ret_bool HE.out.symm, bel1⟩
    rw [hp] at hqp nqp
    cases hc3 : (q == [99, 110, 102])
    · have HE : Hid (R = false) := by show _ = _; rw [hR]; simp only [headW, hp, hc3]; rfl
      rw [hc3] at hqq nqq
      clear hR HTx HTy
      go_enter Tryz.func44, Tryz.ntmps44
      go_wp2_with (go_at_call 62; refine HHd.out.mono ?_; rintro e w1 ⟨rfl, bel1⟩; obtain ⟨d0, d1, d2, d3⟩ := HC.out w1 bel1)
      go_ret
      exact ⟨ret_bool HE.out.symm, bel1⟩
    rw [hc3] at hqq nqq
    cases htx : tensB x
    · have HE : Hid (R = false) := by show _ = _; rw [hR, headW_bad (.inl htx)]; rfl
      rw [htx] at HTx
      have HTx : Hid (∀ W : World, Calls Tryz.prog 46 #[.string X] W fun e w' => e = .returned (.bool false) ∧ w' = W) := HTx
      clear hR HTy htx
      go_enter Tryz.func44, Tryz.ntmps44
      go_wp2_with (first
        | (go_at_call 62; refine HHd.out.mono ?_; rintro e w1 ⟨rfl, bel1⟩; obtain ⟨d0, d1, d2, d3⟩ := HC.out w1 bel1)
        | (go_at_call 46; refine (HTx.out _).mono ?_; rintro e w2 ⟨rfl, rfl⟩))
      go_ret
      exact ⟨ret_bool HE.out.symm, bel1⟩
    rw [htx] at HTx
    have HTx : Hid (∀ W : World, Calls Tryz.prog 46 #[.string X] W fun e w' => e = .returned (.bool true) ∧ w' = W) := HTx
    cases hty : tensB y
    · have HE : Hid (R = false) := by show _ = _; rw [hR, headW_bad (.inr hty)]; rfl
      rw [hty] at HTy
      have HTy : Hid (∀ W : World, Calls Tryz.prog 46 #[.string Y] W fun e w' => e = .returned (.bool false) ∧ w' = W) := HTy
      clear hR htx hty
      go_enter Tryz.func44, Tryz.ntmps44
      go_wp2_with (first
        | (go_at_call 62; refine HHd.out.mono ?_; rintro e w1 ⟨rfl, bel1⟩; obtain ⟨d0, d1, d2, d3⟩ := HC.out w1 bel1)
        | (go_at_call 46; with_reducible refine (HTx.out _).mono ?_; rintro e w2 ⟨rfl, rfl⟩)
        | (go_at_call 46; with_reducible refine (HTy.out _).mono ?_; rintro e w2 ⟨rfl, rfl⟩))
      go_ret
      exact ⟨ret_bool HE.out.symm, bel1⟩
    rw [hty] at HTy
    have HTy : Hid (∀ W : World, Calls Tryz.prog 46 #[.string Y] W fun e w' => e = .returned (.bool true) ∧ w' = W) := HTy
    obtain ⟨z1, hz1⟩ := tens_itoa htx
    obtain ⟨z2, hz2⟩ := tens_itoa hty
    have HE0 : Hid (R = (decide (0 ≤ clN 10000000000 z1) && decide (clN 10000000000 z1 ≤ 1048576) && (decide (0 ≤ clN 10000000000 z2) && decide (clN 10000000000 z2 ≤ 2147483647)))) := by
      show _ = _
      rw [hR, hz1, hz2, headW_4, hp, hc3, clN_small (by omega) (by omega), clN_small (by omega) (by omega)]
      split
      · rename_i h; simp only [Bool.and_self, if_true] at *; split
        · rename_i h2; rw [h2]; rfl
        · rename_i h2; rw [Bool.not_eq_true] at h2; rw [h2]; rfl
      · rename_i h; simp at h
    have HVx : Hid (∀ W : World, Calls Tryz.prog 45 #[.string X] W fun e w' => e = .returned (.int .i64 (clN 10000000000 z1)) ∧ Below W.heap.size W w') := fun W => rVal_any X z1 W (by rw [HX]; exact hz1) hXs
    have HVy : Hid (∀ W : World, Calls Tryz.prog 45 #[.string Y] W fun e w' => e = .returned (.int .i64 (clN 10000000000 z2)) ∧ Below W.heap.size W w') := fun W => rVal_any Y z2 W (by rw [HY]; exact hz2) hYs
    clear hR htx hty hz1 hz2 HX HY hp hc3
    generalize clN 10000000000 z1 = m1 at *
    generalize clN 10000000000 z2 = m2 at *
    go_enter Tryz.func44, Tryz.ntmps44
    go_upto_region 3 with (first
      | (go_at_call 62; refine HHd.out.mono ?_; rintro e w1 ⟨rfl, bel1⟩; obtain ⟨d0, d1, d2, d3⟩ := HC.out w1 bel1)
      | (go_at_call 46; with_reducible refine (HTx.out _).mono ?_; rintro e w2 ⟨rfl, rfl⟩)
      | (go_at_call 46; with_reducible refine (HTy.out _).mono ?_; rintro e w2 ⟨rfl, rfl⟩))
    haveI hne := xt_ne w2
    have n2 : 2 < N := by omega
    have n3 : 3 < N := by omega
    have m2i : (2 : Int) < (N : Int) := by omega
    have m3i : (3 : Int) < (N : Int) := by omega
    have y2 := Wx.cell d2
    have y3 := Wx.cell d3
    have HQx : Hid (∀ x, Calls Tryz.prog 45 #[.string X] (Wx w2 x) fun e w'' => e = .returned (.int .i64 m1) ∧ ∃ y, w'' = Wx w2 y) := fun x => (HVx.out (Wx w2 x)).mono fun e w' ⟨q1, q2⟩ => ⟨q1, ⟨w', Below.step x.be q2⟩, rfl⟩
    have HQy : Hid (∀ x, Calls Tryz.prog 45 #[.string Y] (Wx w2 x) fun e w'' => e = .returned (.int .i64 m2) ∧ ∃ y, w'' = Wx w2 y) := fun x => (HVy.out (Wx w2 x)).mono fun e w' ⟨q1, q2⟩ => ⟨q1, ⟨w', Below.step x.be q2⟩, rfl⟩
    have B2 : Hid (Below w.heap.size w w2) := bel1
    clear d0 d1 d2 d3 HVx HVy HTx HTy HHd HC bel1
    refine (wpIn_wide (n := 1)).1 ?_
    refine region_quietX (by kernel_rfl) (by kernel_rfl) (by kernel_rfl) ?_
    repeat (refine wpQuietIn_step (fun _ _ _ _ => trivial) (fun Kqz hKqz => ?_); go_simp; first | (refine hKqz _ ?_; clear hKqz Kqz) | (apply Exists.intro; refine ⟨fun _ => ?_, hKqz _ ?_⟩; (first | (gi_at_call 45; with_reducible exact callsIn_wide.2 (HQx.out _)) | (gi_at_call 45; with_reducible exact callsIn_wide.2 (HQy.out _))); clear hKqz Kqz))
    refine wpQuietIn_nil ?_
    intro _ hwq1
    obtain ⟨xq, hwq2⟩ := hwq1
    subst hwq2
    have HB9 : Hid (Below w.heap.size w (Wx w2 xq)) := Below.step B2.out xq.be
    clear y2 y3 HQx HQy B2
    generalize Wx w2 xq = W9 at *
    by_cases a1 : 0 ≤ m1
    case neg =>
      have HE : Hid (R = false) := by show _ = _; rw [HE0.out]; simp [a1]
      go_wp2
      go_ret
      exact ⟨ret_bool HE.out.symm, HB9.out⟩
    by_cases a2 : m1 ≤ 1048576
    case neg =>
      have HE : Hid (R = false) := by show _ = _; rw [HE0.out]; simp [a2]
      go_wp2
      go_ret
      exact ⟨ret_bool HE.out.symm, HB9.out⟩
    by_cases a3 : 0 ≤ m2
    case neg =>
      have HE : Hid (R = false) := by show _ = _; rw [HE0.out]; simp [a3]
      go_wp2
      go_ret
      exact ⟨ret_bool HE.out.symm, HB9.out⟩
    by_cases a4 : m2 ≤ 2147483647
    case neg =>
      have HE : Hid (R = false) := by show _ = _; rw [HE0.out]; simp [a4]
      go_wp2
      go_ret
      exact ⟨ret_bool HE.out.symm, HB9.out⟩
    case pos =>
      have HE : Hid (R = true) := by show _ = _; rw [HE0.out]; simp [a1, a2, a3, a4]
      go_wp2
      go_ret
      exact ⟨ret_bool HE.out.symm, HB9.out⟩

end Go.Proofs.YtlkbbbbclmffjaaGreatDoor
set_option linter.unusedSimpArgs false
set_option linter.unusedVariables false
namespace Go.Proofs.YtlkbbbbclmffjaaGreatDoor
open Go Go.RowKit

theorem toldW_n2 {ws : List (List UInt8)} (h : ws.length ≠ 2) : toldW ws = none := by
  unfold toldW
  rw [if_neg (fun e => h (by rw [e]; rfl)), if_neg (fun e => h (by rw [e]; rfl))]
theorem toldW_2 (p q : List UInt8) : (toldW [p, q]).isSome = (p == [115] && (q == yesW || q == noW)) := by
  unfold toldW
  by_cases hp : p = [115]
  · subst hp
    by_cases hy : q = yesW
    · subst hy; simp
    · by_cases hn : q = noW
      · subst hn; simp [yesW, noW]
      · have hy2 : (q == yesW) = false := by simpa using hy
        have hn2 : (q == noW) = false := by simpa using hn
        rw [if_neg (by simpa using hy), if_neg (by simpa using hn), hy2, hn2]; rfl
  · have hp2 : (p == [115]) = false := by simpa using hp
    rw [if_neg (fun e => hp (by injection e)), if_neg (fun e => hp (by injection e)), hp2]; rfl

set_option maxHeartbeats 3200000 in
set_option maxRecDepth 100000 in
theorem rTold_any (B : Nat) (v : Value) (ws : List (List UInt8)) (kk : Nat) (tl : List Wrd) (w : World) (ho : OwnW B w v (ws.map (fun x => (x, kk)) ++ tl)) (hne : ws ≠ []) (htl : ∀ x ∈ tl, x.2 ≠ kk) (hl : (ws.map (fun x => (x, kk)) ++ tl).length ≤ 1099511627776) :
    Calls Tryz.prog 52 #[v] w fun e w' => e = .returned (.bool (toldW ws).isSome) ∧ Below w.heap.size w w' := by
  have HHd := rHeading_any B v _ w ho hl
  have e0 : ((ws.map (fun x => (x, kk)) ++ tl).getD 0 ([], 0)).2 = kk := by
    cases ws with
    | nil => exact absurd rfl hne
    | cons a r => rfl
  rw [e0, hdg_len ws htl] at HHd
  have HHd : Hid (Calls Tryz.prog 62 #[v] w fun e w' => e = .returned (.int .i64 (ws.length : Int)) ∧ Below w.heap.size w w') := HHd
  obtain ⟨R, hR⟩ : ∃ R, R = (toldW ws).isSome := ⟨_, rfl⟩
  rw [← hR]
  obtain ⟨a, c, hv, hc, hm, hcell⟩ := ho.form
  have hlen2 : (ws.map (fun x => (x, kk)) ++ tl).length = ws.length + tl.length := by simp
  obtain ⟨N, hN⟩ : ∃ N, N = (ws.map (fun x => (x, kk)) ++ tl).length := ⟨_, rfl⟩
  rw [← hN] at hv hc hl hcell hlen2
  clear e0 hne hN
  by_cases h2 : ws.length = 2
  case neg =>
    have HE : Hid (R = false) := by show _ = _; rw [hR, toldW_n2 h2]; rfl
    have hq : ((ws.length : Int) == 2) = false := beq_eq_false_iff_ne.2 (by omega)
    clear hR h2 hcell ho hlen2
    subst hv
    go_enter Tryz.func52, Tryz.ntmps52
    go_wp2_with (go_at_call 62; refine HHd.out.mono ?_; rintro e w1 ⟨rfl, bel1⟩)
    go_ret
    exact ⟨ret_bool HE.out.symm, bel1⟩
  match ws, h2 with
  | [p, q], _ =>
    have hge : 2 ≤ N := by rw [hlen2]; simp
    clear hlen2
    obtain ⟨g, hg, hgl, c0, _⟩ := hcell 0 (by omega)
    obtain ⟨g1, hg1, _, c1, _⟩ := hcell 1 (by omega)
    have f1 : g1 = g := by have := hg.symm.trans hg1; injection this with q; injection q with q; exact q.symm
    subst f1
    obtain ⟨P, hP⟩ : ∃ P : ByteArray, P = ⟨p.toArray⟩ := ⟨_, rfl⟩
    obtain ⟨Q, hQ⟩ : ∃ Q : ByteArray, Q = ⟨q.toArray⟩ := ⟨_, rfl⟩
    have HP : P.data.toList = p := by rw [hP]
    have HQ : Q.data.toList = q := by rw [hQ]
    have HC : Hid (∀ W : World, Below w.heap.size w W → W.cell? ⟨g1, 0, none⟩ = some (.string P) ∧ W.cell? ⟨g1, 2, none⟩ = some (.string Q)) := fun W hb => by
      refine ⟨(hb.cell (p := ⟨g1, 0, none⟩) hgl).trans ?_, (hb.cell (p := ⟨g1, 2, none⟩) hgl).trans ?_⟩
      · rw [hP]; exact c0
      · rw [hQ]; exact c1
    have hqp : (P.toList == [115]) = (p == [115]) := by rw [ByteArray.toList_eq, HP]
    have hqy : (Q.toList == [83, 65, 84, 73, 83, 70, 73, 65, 66, 76, 69]) = (q == yesW) := by rw [ByteArray.toList_eq, HQ]; rfl
    have hqn : (Q.toList == [85, 78, 83, 65, 84, 73, 83, 70, 73, 65, 66, 76, 69]) = (q == noW) := by rw [ByteArray.toList_eq, HQ]; rfl
    have HE : Hid (R = (p == [115] && (q == yesW || q == noW))) := by show _ = _; rw [hR, toldW_2]
    subst hv
    subst hg
    have HHd : Hid (Calls Tryz.prog 62 #[.slice (some ⟨g1, 0, none⟩) N c] w fun e w' => e = .returned (.int .i64 2) ∧ Below w.heap.size w w') := HHd
    clear hP hQ c0 c1 hcell ho hg1 htl HP HQ hgl hR
    generalize (p == [115]) = b1 at *
    generalize (q == yesW) = b2 at *
    generalize (q == noW) = b3 at *
    cases b1 <;> cases b2 <;> cases b3
    all_goals
      go_enter Tryz.func52, Tryz.ntmps52
      go_wp2_with (go_at_call 62; refine HHd.out.mono ?_; rintro e w1 ⟨rfl, bel1⟩; obtain ⟨d0, d1⟩ := HC.out w1 bel1)
      go_ret
      exact ⟨ret_bool (by rw [HE.out]; rfl), bel1⟩

end Go.Proofs.YtlkbbbbclmffjaaGreatDoor
