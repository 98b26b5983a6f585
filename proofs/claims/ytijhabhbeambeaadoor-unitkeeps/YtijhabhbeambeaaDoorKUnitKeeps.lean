/-
  UnitKeeps, walked.
  KEEP: set on app at below new trans refl start ap kept rd rds mono lt add none own nil put len pos setF setV putL putR other neV same_any row call out ints caus eq walk apart
-/
import Derived.Test.YtijhabhbeambeaaDoorKUnKp
set_option linter.unusedSimpArgs false
set_option linter.unusedVariables false
namespace Go.Proofs.YtijhabhbeambeaaDoor.unitKeeps
open Go Go.RowKit Go.Shelf

/-- what is lent, as it was handed in -/
structure Ra (B B4 D : Nat) (vi vw vr vq : Value) (css : List (List Int)) (L M : List Cls) (facts : List Int) (W : World) : Prop where
  k : Lk B W vw vr css L M
  q : Own B4 W vq (facts ++ m64)
  x : Bx3 W D 35 vi vw vr
theorem Ra.below {B B4 D : Nat} {vi vw vr vq : Value} {css : List (List Int)} {L M : List Cls} {facts : List Int} {W W' : World} (h : Ra B B4 D vi vw vr vq css L M facts W) (hb : Below W.heap.size W W') : Ra B B4 D vi vw vr vq css L M facts W' := ⟨h.k.below hb, h.q.below hb, h.x.below hb⟩
theorem few3 {k : Nat} (h : k ≤ 1048576) : Few (List.replicate k [1, -1, 2]) := Few.of (by rw [List.length_replicate]; omega) (by unfold lsum; simp [List.map_replicate]; omega)

set_option maxRecDepth 100000 in
set_option maxHeartbeats 51200000 in
theorem walk (n : Int) (s : Value) (css : List (List Int)) (m : Int) (t : Value) (dss : List (List Int)) (vf : Value) (facts : List Int) (vo : Value) (other : List Int) (w : World) (h1 : Rds w s css) (h2 : Rds w t dss) (h3 : Rd w vf facts) (h4 : Rd w vo other)
    (hb1 : css.length + (css.map List.length).sum ≤ 1048576) (hb2 : dss.length + (dss.map List.length).sum ≤ 1048576) (hb3 : facts.length ≤ 1048576) (hD : Deb w) :
    Calls Tryd.prog 4 #[.agg #[.int .i64 n, s, .int .i64 m, t, vf, vo]] w fun e w' => e = .returned (.bool true) ∧ Below w.heap.size w w' := by
  have H8 : Hid ((∀ z ∈ css, z.length * 8 ≤ 140737488351232) ∧ css.length ≤ 1048576 ∧ facts.length ≤ 1048576) := ⟨rds_each h1, by omega, hb3⟩
  have HF1 : Hid (Few css) := Few.of (by omega) (by unfold lsum; omega)
  have HF2 : Hid (Few dss) := Few.of (by omega) (by unfold lsum; omega)
  obtain ⟨af, cf, rfl, -, -, -⟩ := h3.form
  have HX0 : Hid (Ax w.heap.size n s css m t dss (.slice af facts.length cf) facts vo other (w.alloc (.cells #[.int .i64 n, s, .int .i64 m, t, (.slice af facts.length cf), vo] 33))) := Ax.new _ h1 h2 h3 h4 hD
  have HB0 : Hid (Below w.heap.size w (w.alloc (.cells #[.int .i64 n, s, .int .i64 m, t, (.slice af facts.length cf), vo] 33))) := below_box _ _
  clear h1 h2 h3 h4 hb1 hb2 hb3 hD
  go_enter Tryd.func4, Tryd.ntmps4
  go_wp2_with fail
  generalize w.alloc (.cells #[.int .i64 n, s, .int .i64 m, t, (.slice af facts.length cf), vo] 33) = W0 at *
  have HX : Hid (∀ W, Below W0.heap.size W0 W → Ax w.heap.size n s css m t dss (.slice af facts.length cf) facts vo other W) := fun W h => HX0.out.below h
  refine (lentRows_any s css W0 HX0.out.rf (by have := H8.out.2.1; omega)).mono ?_
  rintro e w1 ⟨vi, vw, vr, L, M, rfl, hq⟩
  obtain ⟨gw, cw, evw, evi, hcw, hcm⟩ := hq.vals
  subst evw; subst evi
  obtain ⟨ar, cr, er⟩ := row_form hq.l.r.row
  subst er
  have HQ : Hid (Lq W0 w1 (.slice (some ⟨gw, 0, none⟩) css.length cw) (.slice (some ⟨gw, 0, none⟩) (css.length + 64) cw) (.slice ar L.length cr) css L M) := hq
  have HCw : Hid (css.length + 64 ≤ cw ∧ cw ≤ maxLen) := ⟨hcw, hcm⟩
  clear hq hcw hcm HX0
  have HA0 : Hid (Below W0.heap.size W0 (w1.alloc (.cells #[(.slice (some ⟨gw, 0, none⟩) css.length cw), (.slice (some ⟨gw, 0, none⟩) (css.length + 64) cw), (.slice ar L.length cr)] 35))) := Below.step HQ.out.b (below_box _ _)
  have HQ1 : Hid (Lk W0.heap.size (w1.alloc (.cells #[(.slice (some ⟨gw, 0, none⟩) css.length cw), (.slice (some ⟨gw, 0, none⟩) (css.length + 64) cw), (.slice ar L.length cr)] 35)) (.slice (some ⟨gw, 0, none⟩) (css.length + 64) cw) (.slice ar L.length cr) css L M ∧ Bx3 (w1.alloc (.cells #[(.slice (some ⟨gw, 0, none⟩) css.length cw), (.slice (some ⟨gw, 0, none⟩) (css.length + 64) cw), (.slice ar L.length cr)] 35)) w1.heap.size 35 (.slice (some ⟨gw, 0, none⟩) css.length cw) (.slice (some ⟨gw, 0, none⟩) (css.length + 64) cw) (.slice ar L.length cr) ∧ w1.heap.size < (w1.alloc (.cells #[(.slice (some ⟨gw, 0, none⟩) css.length cw), (.slice (some ⟨gw, 0, none⟩) (css.length + 64) cw), (.slice ar L.length cr)] 35)).heap.size) := ⟨HQ.out.k.below (below_box _ _), World.alloc_heap_new w1 _, by rw [World.size_alloc]; exact Nat.lt_succ_self _⟩
  have d4 := (HX.out _ HA0.out).c4
  go_wp2_with fail
  generalize w1.alloc (.cells #[(.slice (some ⟨gw, 0, none⟩) css.length cw), (.slice (some ⟨gw, 0, none⟩) (css.length + 64) cw), (.slice ar L.length cr)] 35) = w1b at *
  refine (lent_any (.slice af facts.length cf) facts w1b (HX.out _ HA0.out).rh).mono ?_
  rintro e w2 ⟨vq, rfl, own2, bel2⟩
  obtain ⟨gq, cq, eq, hcq, -, -⟩ := row_some own2 (by rw [List.length_append, m64_len]; omega)
  rw [List.length_append, m64_len] at eq hcq
  subst eq
  have HS2 : Hid (W0.heap.size ≤ w1.heap.size ∧ w1.heap.size < w1b.heap.size ∧ w1b.heap.size ≤ w2.heap.size) := ⟨HQ.out.b.size, HQ1.out.2.2, bel2.size⟩
  have HA : Hid (Ra W0.heap.size w1b.heap.size w1.heap.size (.slice (some ⟨gw, 0, none⟩) css.length cw) (.slice (some ⟨gw, 0, none⟩) (css.length + 64) cw) (.slice ar L.length cr) (.slice (some ⟨gq, 0, none⟩) (facts.length + 64) cq) css L M facts w2) := ⟨HQ1.out.1.below bel2, own2, HQ1.out.2.1.below bel2⟩
  have HLo : Hid ((∀ k, Lown (.slice (some ⟨gw, 0, none⟩) (css.length + 64) cw) (.slice ar L.length cr) L k → W0.heap.size ≤ k ∧ k < w1.heap.size) ∧ L.length = css.length ∧ M.length = 64) := ⟨lown_le HQ.out.l, HQ.out.k.len⟩
  have HQo : Hid (w1b.heap.size ≤ gq ∧ gq < w2.heap.size ∧ facts.length + 64 ≤ cq ∧ W0.heap.size ≤ gw ∧ gw < w1.heap.size) := ⟨(own2.lt gq rfl).1, (own2.lt gq rfl).2, hcq, (HQ.out.l.w.lt gw rfl).1, (HQ.out.l.w.lt gw rfl).2⟩
  have HK0 : Hid (Ko W0 w2.heap.size w2 (w2.alloc (.cells #[.int .i64 n, (.slice (some ⟨gw, 0, none⟩) css.length cw)] 24)) [(w2.heap.size, .int .i64 n, (.slice (some ⟨gw, 0, none⟩) css.length cw))] []) := Ko.start ((Kx.start (Below.step HA0.out bel2) (Nat.le_trans HA0.out.size bel2.size) (Nat.le_refl _)).box (.int .i64 n) (.slice (some ⟨gw, 0, none⟩) css.length cw))
  have HRd : Hid (∀ W, Below w2.heap.size w2 W → Rds W (.slice (some ⟨gw, 0, none⟩) css.length cw) css ∧ Rd W (.slice (some ⟨gq, 0, none⟩) facts.length cq) facts) := fun W h => ⟨(HA.out.below h).k.tn.rds (by have := HCw.out.1; omega) HCw.out.2 (by simp) (by have := H8.out.2.1; omega) H8.out.1, own_hd (HA.out.below h).q (by omega) (by have := H8.out.2.2; omega)⟩
  have e0 := (HX.out _ (Below.step HA0.out bel2)).c0
  have x0 := HA.out.x.c0
  have hpc : facts.length ≤ cq := by omega
  clear own2 bel2 d4 HQ HQ1 hcq
  go_upto_region 4 with fail
  clear e0 x0
  generalize w2.alloc (.cells #[.int .i64 n, (.slice (some ⟨gw, 0, none⟩) css.length cw)] 24) = w10 at *
  have HSx : Hid (∀ W', Below w10.heap.size w10 W' → Below w10.heap.size w10 W' ∧ W'.cell? ⟨w2.heap.size, 0, none⟩ = some (.int .i64 n) ∧ W'.cell? ⟨w2.heap.size, 1, none⟩ = some (.slice (some ⟨gw, 0, none⟩) css.length cw) ∧ W'.cell? ⟨w.heap.size, 4, none⟩ = some (.slice af facts.length cf)) := fun W' h => ⟨h, ((HK0.out.below h).k.bx _ (List.mem_cons_self ..)).1.c0, ((HK0.out.below h).k.bx _ (List.mem_cons_self ..)).1.c1, (HX.out _ (HK0.out.below h).k.bel).c4⟩
  have HC : Hid (∀ W, Below w10.heap.size w10 W → CloseS Tryd.prog 11 n (.slice (some ⟨gw, 0, none⟩) css.length cw) css (.slice (some ⟨gq, 0, none⟩) facts.length cq) facts W) := fun W h => uCloseS (HRd.out _ (HK0.out.below h).k.ref).1 (HRd.out _ (HK0.out.below h).k.ref).2 HF1.out (HX.out _ (HK0.out.below h).k.bel).deb
  have HW1 : Hid (Below w10.heap.size w10 w10.drew) := (Below.refl _ _).drew
  go_cut [6, 7, 8] from 62 to 72 (fun p q r wx => RClo W0 w2.heap.size w2 [(w2.heap.size, .int .i64 n, (.slice (some ⟨gw, 0, none⟩) css.length cw))] [] n css facts p q r wx)
  case first =>
    go_region_held (fun W' => Below w10.heap.size w10 W' ∧ W'.cell? ⟨w2.heap.size, 0, none⟩ = some (.int .i64 n) ∧ W'.cell? ⟨w2.heap.size, 1, none⟩ = some (.slice (some ⟨gw, 0, none⟩) css.length cw) ∧ W'.cell? ⟨w.heap.size, 4, none⟩ = some (.slice af facts.length cf)) (first | exact HSx.out _ HW1.out | exact HSx.out _ BZ.out) (first | (go_at_call 11; refine Calls.mono (HC.out _ HW1.out) ?_; rintro e wz ⟨az, cz, bz, Dz, rfl, pz, rz, belz⟩; have BZ : Hid (Below w10.heap.size w10 wz) := Below.step HW1.out belz; have F9 : Hid (RClo W0 w2.heap.size w2 [(w2.heap.size, .int .i64 n, (.slice (some ⟨gw, 0, none⟩) css.length cw))] [] n css facts (.slice az Dz.length cz) (.bool bz) (.int .i64 (cloE n css facts)) wz) := ⟨az, cz, bz, Dz, rfl, rfl, rfl, pz, (HK0.out.below HW1.out).call belz rz⟩; clear pz rz belz))
    go_wp2_with fail
    go_meet
    exact F9.out
  case rest =>
  obtain ⟨a11, c11, b11, D11, rfl, rfl, rfl, p11, k11⟩ := hcut
  generalize wc = w11 at *
  have HP1 : Hid (Cp n css facts b11 D11) := p11
  have HK1 : Hid (Ko W0 w2.heap.size w2 w11 [(w2.heap.size, .int .i64 n, (.slice (some ⟨gw, 0, none⟩) css.length cw))] [il (.slice a11 D11.length c11) D11]) := k11
  clear HSx HC HW1 k11 HK0 p11
  --D1
  go_upto_region 5 with fail
  have HSx : Hid (∀ W', Below w11.heap.size w11 W' → Below w11.heap.size w11 W' ∧ W'.cell? ⟨w2.heap.size, 0, none⟩ = some (.int .i64 n) ∧ W'.cell? ⟨w2.heap.size, 1, none⟩ = some (.slice (some ⟨gw, 0, none⟩) css.length cw) ∧ W'.cell? ⟨w.heap.size, 4, none⟩ = some (.slice af facts.length cf)) := fun W' h => ⟨h, ((HK1.out.below h).k.bx _ (List.mem_cons_self ..)).1.c0, ((HK1.out.below h).k.bx _ (List.mem_cons_self ..)).1.c1, (HX.out _ (HK1.out.below h).k.bel).c4⟩
  have HC : Hid (∀ W, Below w11.heap.size w11 W → WhyS Tryd.prog 12 n (.slice (some ⟨gw, 0, none⟩) css.length cw) css (.slice (some ⟨gq, 0, none⟩) facts.length cq) facts W) := fun W h => uWhyS (HRd.out _ (HK1.out.below h).k.ref).1 (HRd.out _ (HK1.out.below h).k.ref).2 HF1.out (HX.out _ (HK1.out.below h).k.bel).deb
  have HW1 : Hid (Below w11.heap.size w11 w11.drew) := (Below.refl _ _).drew
  go_cut [9, 10, 11] from 73 to 83 (fun p q r wx => RWhy W0 w2.heap.size w2 [(w2.heap.size, .int .i64 n, (.slice (some ⟨gw, 0, none⟩) css.length cw))] [il (.slice a11 D11.length c11) D11] n css facts p q r wx)
  case first =>
    go_region_held (fun W' => Below w11.heap.size w11 W' ∧ W'.cell? ⟨w2.heap.size, 0, none⟩ = some (.int .i64 n) ∧ W'.cell? ⟨w2.heap.size, 1, none⟩ = some (.slice (some ⟨gw, 0, none⟩) css.length cw) ∧ W'.cell? ⟨w.heap.size, 4, none⟩ = some (.slice af facts.length cf)) (first | exact HSx.out _ HW1.out | exact HSx.out _ BZ.out) (first | (go_at_call 12; refine Calls.mono (HC.out _ HW1.out) ?_; rintro e wz ⟨az, cz, csz, ez, rfl, pz, rz, belz⟩; have BZ : Hid (Below w11.heap.size w11 wz) := Below.step HW1.out belz; have F9 : Hid (RWhy W0 w2.heap.size w2 [(w2.heap.size, .int .i64 n, (.slice (some ⟨gw, 0, none⟩) css.length cw))] [il (.slice a11 D11.length c11) D11] n css facts (.slice az csz.length cz) (.int .i64 ez) (.int .i64 (whyE n css facts)) wz) := ⟨az, cz, csz, ez, rfl, rfl, rfl, pz, (HK1.out.below HW1.out).call belz rz⟩; clear pz rz belz))
    go_wp2_with fail
    go_meet
    exact F9.out
  case rest =>
  obtain ⟨a12, c12, cs12, e12, rfl, rfl, rfl, p12, k12⟩ := hcut
  generalize wc = w12 at *
  have HP2 : Hid (Wp n css facts cs12 e12) := p12
  have HK2 : Hid (Ko W0 w2.heap.size w2 w12 [(w2.heap.size, .int .i64 n, (.slice (some ⟨gw, 0, none⟩) css.length cw))] [il (.slice a11 D11.length c11) D11, cl (.slice a12 cs12.length c12) cs12]) := k12
  clear HSx HC HW1 k12 HK1 p12
  go_upto_region 6 with fail
  have HSx : Hid (∀ W', Below w12.heap.size w12 W' → Below w12.heap.size w12 W' ∧ W'.cell? ⟨w2.heap.size, 0, none⟩ = some (.int .i64 n) ∧ W'.cell? ⟨w2.heap.size, 1, none⟩ = some (.slice (some ⟨gw, 0, none⟩) css.length cw) ∧ W'.cell? ⟨w.heap.size, 4, none⟩ = some (.slice af facts.length cf)) := fun W' h => ⟨h, ((HK2.out.below h).k.bx _ (List.mem_cons_self ..)).1.c0, ((HK2.out.below h).k.bx _ (List.mem_cons_self ..)).1.c1, (HX.out _ (HK2.out.below h).k.bel).c4⟩
  have HC : Hid (∀ W, Below w12.heap.size w12 W → ForS Tryd.prog 13 n (.slice (some ⟨gw, 0, none⟩) css.length cw) css (.slice (some ⟨gq, 0, none⟩) facts.length cq) facts W) := fun W h => uForS (HRd.out _ (HK2.out.below h).k.ref).1 (HRd.out _ (HK2.out.below h).k.ref).2 HF1.out (HX.out _ (HK2.out.below h).k.bel).deb
  have HW1 : Hid (Below w12.heap.size w12 w12.drew) := (Below.refl _ _).drew
  go_cut [12, 13] from 84 to 93 (fun p q wx => RFor W0 w2.heap.size w2 [(w2.heap.size, .int .i64 n, (.slice (some ⟨gw, 0, none⟩) css.length cw))] [il (.slice a11 D11.length c11) D11, cl (.slice a12 cs12.length c12) cs12] n css facts p q wx)
  case first =>
    go_region_held (fun W' => Below w12.heap.size w12 W' ∧ W'.cell? ⟨w2.heap.size, 0, none⟩ = some (.int .i64 n) ∧ W'.cell? ⟨w2.heap.size, 1, none⟩ = some (.slice (some ⟨gw, 0, none⟩) css.length cw) ∧ W'.cell? ⟨w.heap.size, 4, none⟩ = some (.slice af facts.length cf)) (first | exact HSx.out _ HW1.out | exact HSx.out _ BZ.out) (first | (go_at_call 13; refine Calls.mono (HC.out _ HW1.out) ?_; rintro e wz ⟨rfl, belz⟩; have BZ : Hid (Below w12.heap.size w12 wz) := Below.step HW1.out belz; have F9 : Hid (RFor W0 w2.heap.size w2 [(w2.heap.size, .int .i64 n, (.slice (some ⟨gw, 0, none⟩) css.length cw))] [il (.slice a11 D11.length c11) D11, cl (.slice a12 cs12.length c12) cs12] n css facts (.bool (frcB n css facts 1)) (.int .i64 (frcE n css facts 1)) wz) := ⟨rfl, rfl, (HK2.out.below HW1.out).below belz⟩; clear belz))
    go_wp2_with fail
    go_meet
    exact F9.out
  case rest =>
  obtain ⟨rfl, rfl, k13⟩ := hcut
  generalize wc = w13 at *
  have HK3 : Hid (Ko W0 w2.heap.size w2 w13 [(w2.heap.size, .int .i64 n, (.slice (some ⟨gw, 0, none⟩) css.length cw))] [il (.slice a11 D11.length c11) D11, cl (.slice a12 cs12.length c12) cs12]) := k13
  clear HSx HC HW1 k13 HK2
  have d0 : w13.cell? ⟨w2.heap.size, 0, none⟩ = some (.int .i64 n) := (HK3.out.k.bx _ (List.mem_cons_self ..)).1.c0
  have d1 : w13.cell? ⟨w2.heap.size, 1, none⟩ = some (.slice (some ⟨gw, 0, none⟩) css.length cw) := (HK3.out.k.bx _ (List.mem_cons_self ..)).1.c1
  go_wp2_with fail
  refine Calls.mono (uPrbS (HRd.out _ HK3.out.k.ref).1 HF1.out (HX.out _ HK3.out.k.bel).deb) ?_
  rintro e w14 ⟨a14, c14, D14, rfl, p14, r14, bel14⟩
  have h14 := HK3.out.call bel14 r14
  have HP3 : Hid (Pp n css D14) := p14
  have HK4 : Hid (Ko W0 w2.heap.size w2 w14 [(w2.heap.size, .int .i64 n, (.slice (some ⟨gw, 0, none⟩) css.length cw))] [il (.slice a11 D11.length c11) D11, cl (.slice a12 cs12.length c12) cs12, il (.slice a14 D14.length c14) D14]) := h14
  clear h14 p14 r14 bel14 HK3
  clear d0 d1
  have f1 := (HX.out _ HK4.out.k.bel).c1
  have x0 := (HA.out.below HK4.out.k.ref).x.c0
  have x1 := (HA.out.below HK4.out.k.ref).x.c1
  have x2 := (HA.out.below HK4.out.k.ref).x.c2
  go_wp2_with fail
  refine Calls.mono (keptRows_any W0.heap.size (.slice (some ⟨gw, 0, none⟩) css.length cw) (.slice (some ⟨gw, 0, none⟩) (css.length + 64) cw) (.slice ar L.length cr) s css L M w14 (HA.out.below HK4.out.k.ref).k (HX.out _ HK4.out.k.bel).rf (by have := H8.out.2.1; omega)) ?_
  rintro e w15 ⟨rfl, bel15⟩
  have HK5 : Hid (Ko W0 w2.heap.size w2 w15 [(w2.heap.size, .int .i64 n, (.slice (some ⟨gw, 0, none⟩) css.length cw))] [il (.slice a11 D11.length c11) D11, cl (.slice a12 cs12.length c12) cs12, il (.slice a14 D14.length c14) D14]) := HK4.out.below bel15
  clear bel15 HK4
  clear f1 x0 x1 x2
  have f4 := (HX.out _ HK5.out.k.bel).c4
  go_wp2_with fail
  refine Calls.mono (kept_any w1b.heap.size (.slice (some ⟨gq, 0, none⟩) (facts.length + 64) cq) (.slice af facts.length cf) facts w15 (HA.out.below HK5.out.k.ref).q (HX.out _ HK5.out.k.bel).rh) ?_
  rintro e w16 ⟨rfl, bel16⟩
  have HK6 : Hid (Ko W0 w2.heap.size w2 w16 [(w2.heap.size, .int .i64 n, (.slice (some ⟨gw, 0, none⟩) css.length cw))] [il (.slice a11 D11.length c11) D11, cl (.slice a12 cs12.length c12) cs12, il (.slice a14 D14.length c14) D14]) := HK5.out.below bel16
  clear bel16 HK5
  clear f4
  --D2
  go_upto_region 10 with fail
  have HSx : Hid (∀ W', Below w16.heap.size w16 W' → Below w16.heap.size w16 W' ∧ W'.cell? ⟨w2.heap.size, 0, none⟩ = some (.int .i64 n) ∧ W'.cell? ⟨w2.heap.size, 1, none⟩ = some (.slice (some ⟨gw, 0, none⟩) css.length cw) ∧ W'.cell? ⟨w.heap.size, 4, none⟩ = some (.slice af facts.length cf)) := fun W' h => ⟨h, ((HK6.out.below h).k.bx _ (List.mem_cons_self ..)).1.c0, ((HK6.out.below h).k.bx _ (List.mem_cons_self ..)).1.c1, (HX.out _ (HK6.out.below h).k.bel).c4⟩
  have HC : Hid (∀ W, Below w16.heap.size w16 W → CloseS Tryd.prog 11 n (.slice (some ⟨gw, 0, none⟩) css.length cw) css (.slice (some ⟨gq, 0, none⟩) facts.length cq) facts W) := fun W h => uCloseS (HRd.out _ (HK6.out.below h).k.ref).1 (HRd.out _ (HK6.out.below h).k.ref).2 HF1.out (HX.out _ (HK6.out.below h).k.bel).deb
  have HW1 : Hid (Below w16.heap.size w16 w16.drew) := (Below.refl _ _).drew
  go_cut [16, 17, 18] from 112 to 122 (fun p q r wx => RClo W0 w2.heap.size w2 [(w2.heap.size, .int .i64 n, (.slice (some ⟨gw, 0, none⟩) css.length cw))] [il (.slice a11 D11.length c11) D11, cl (.slice a12 cs12.length c12) cs12, il (.slice a14 D14.length c14) D14] n css facts p q r wx)
  case first =>
    go_region_held (fun W' => Below w16.heap.size w16 W' ∧ W'.cell? ⟨w2.heap.size, 0, none⟩ = some (.int .i64 n) ∧ W'.cell? ⟨w2.heap.size, 1, none⟩ = some (.slice (some ⟨gw, 0, none⟩) css.length cw) ∧ W'.cell? ⟨w.heap.size, 4, none⟩ = some (.slice af facts.length cf)) (first | exact HSx.out _ HW1.out | exact HSx.out _ BZ.out) (first | (go_at_call 11; refine Calls.mono (HC.out _ HW1.out) ?_; rintro e wz ⟨az, cz, bz, Dz, rfl, pz, rz, belz⟩; have BZ : Hid (Below w16.heap.size w16 wz) := Below.step HW1.out belz; have F9 : Hid (RClo W0 w2.heap.size w2 [(w2.heap.size, .int .i64 n, (.slice (some ⟨gw, 0, none⟩) css.length cw))] [il (.slice a11 D11.length c11) D11, cl (.slice a12 cs12.length c12) cs12, il (.slice a14 D14.length c14) D14] n css facts (.slice az Dz.length cz) (.bool bz) (.int .i64 (cloE n css facts)) wz) := ⟨az, cz, bz, Dz, rfl, rfl, rfl, pz, (HK6.out.below HW1.out).call belz rz⟩; clear pz rz belz))
    go_wp2_with fail
    go_meet
    exact F9.out
  case rest =>
  obtain ⟨a17, c17, b17, D17, rfl, rfl, rfl, p17, k17⟩ := hcut
  generalize wc = w17 at *
  obtain ⟨rfl, rfl⟩ := HP1.out.eq p17
  have HK7 : Hid (Ko W0 w2.heap.size w2 w17 [(w2.heap.size, .int .i64 n, (.slice (some ⟨gw, 0, none⟩) css.length cw))] [il (.slice a11 D11.length c11) D11, cl (.slice a12 cs12.length c12) cs12, il (.slice a14 D14.length c14) D14, il (.slice a17 D11.length c17) D11]) := k17
  clear HSx HC HW1 k17 HK6 p17
  go_upto_region 11 with fail
  have HSx : Hid (∀ W', Below w17.heap.size w17 W' → Below w17.heap.size w17 W' ∧ W'.cell? ⟨w2.heap.size, 0, none⟩ = some (.int .i64 n) ∧ W'.cell? ⟨w2.heap.size, 1, none⟩ = some (.slice (some ⟨gw, 0, none⟩) css.length cw) ∧ W'.cell? ⟨w.heap.size, 4, none⟩ = some (.slice af facts.length cf)) := fun W' h => ⟨h, ((HK7.out.below h).k.bx _ (List.mem_cons_self ..)).1.c0, ((HK7.out.below h).k.bx _ (List.mem_cons_self ..)).1.c1, (HX.out _ (HK7.out.below h).k.bel).c4⟩
  have HC : Hid (∀ W, Below w17.heap.size w17 W → WhyS Tryd.prog 12 n (.slice (some ⟨gw, 0, none⟩) css.length cw) css (.slice (some ⟨gq, 0, none⟩) facts.length cq) facts W) := fun W h => uWhyS (HRd.out _ (HK7.out.below h).k.ref).1 (HRd.out _ (HK7.out.below h).k.ref).2 HF1.out (HX.out _ (HK7.out.below h).k.bel).deb
  have HW1 : Hid (Below w17.heap.size w17 w17.drew) := (Below.refl _ _).drew
  go_cut [19, 20, 21] from 123 to 133 (fun p q r wx => RWhy W0 w2.heap.size w2 [(w2.heap.size, .int .i64 n, (.slice (some ⟨gw, 0, none⟩) css.length cw))] [il (.slice a11 D11.length c11) D11, cl (.slice a12 cs12.length c12) cs12, il (.slice a14 D14.length c14) D14, il (.slice a17 D11.length c17) D11] n css facts p q r wx)
  case first =>
    go_region_held (fun W' => Below w17.heap.size w17 W' ∧ W'.cell? ⟨w2.heap.size, 0, none⟩ = some (.int .i64 n) ∧ W'.cell? ⟨w2.heap.size, 1, none⟩ = some (.slice (some ⟨gw, 0, none⟩) css.length cw) ∧ W'.cell? ⟨w.heap.size, 4, none⟩ = some (.slice af facts.length cf)) (first | exact HSx.out _ HW1.out | exact HSx.out _ BZ.out) (first | (go_at_call 12; refine Calls.mono (HC.out _ HW1.out) ?_; rintro e wz ⟨az, cz, csz, ez, rfl, pz, rz, belz⟩; have BZ : Hid (Below w17.heap.size w17 wz) := Below.step HW1.out belz; have F9 : Hid (RWhy W0 w2.heap.size w2 [(w2.heap.size, .int .i64 n, (.slice (some ⟨gw, 0, none⟩) css.length cw))] [il (.slice a11 D11.length c11) D11, cl (.slice a12 cs12.length c12) cs12, il (.slice a14 D14.length c14) D14, il (.slice a17 D11.length c17) D11] n css facts (.slice az csz.length cz) (.int .i64 ez) (.int .i64 (whyE n css facts)) wz) := ⟨az, cz, csz, ez, rfl, rfl, rfl, pz, (HK7.out.below HW1.out).call belz rz⟩; clear pz rz belz))
    go_wp2_with fail
    go_meet
    exact F9.out
  case rest =>
  obtain ⟨a18, c18, cs18, e18, rfl, rfl, rfl, p18, k18⟩ := hcut
  generalize wc = w18 at *
  obtain ⟨rfl, rfl⟩ := HP2.out.eq p18
  have HK8 : Hid (Ko W0 w2.heap.size w2 w18 [(w2.heap.size, .int .i64 n, (.slice (some ⟨gw, 0, none⟩) css.length cw))] [il (.slice a11 D11.length c11) D11, cl (.slice a12 cs12.length c12) cs12, il (.slice a14 D14.length c14) D14, il (.slice a17 D11.length c17) D11, cl (.slice a18 cs12.length c18) cs12]) := k18
  clear HSx HC HW1 k18 HK7 p18
  have d0 : w18.cell? ⟨w2.heap.size, 0, none⟩ = some (.int .i64 n) := (HK8.out.k.bx _ (List.mem_cons_self ..)).1.c0
  have d1 : w18.cell? ⟨w2.heap.size, 1, none⟩ = some (.slice (some ⟨gw, 0, none⟩) css.length cw) := (HK8.out.k.bx _ (List.mem_cons_self ..)).1.c1
  go_wp2_with fail
  refine Calls.mono (uPrbS (HRd.out _ HK8.out.k.ref).1 HF1.out (HX.out _ HK8.out.k.bel).deb) ?_
  rintro e w19 ⟨a19, c19, D19, rfl, p19, r19, bel19⟩
  have h19 := HK8.out.call bel19 r19
  obtain rfl := HP3.out.eq p19
  have HK9 : Hid (Ko W0 w2.heap.size w2 w19 [(w2.heap.size, .int .i64 n, (.slice (some ⟨gw, 0, none⟩) css.length cw))] [il (.slice a11 D11.length c11) D11, cl (.slice a12 cs12.length c12) cs12, il (.slice a14 D14.length c14) D14, il (.slice a17 D11.length c17) D11, cl (.slice a18 cs12.length c18) cs12, il (.slice a19 D14.length c19) D14]) := h19
  clear h19 p19 r19 bel19 HK8
  clear d0 d1
  have f0 := (HX.out _ HK9.out.k.bel).c0
  have f1 := (HX.out _ HK9.out.k.bel).c1
  have f4 := (HX.out _ HK9.out.k.bel).c4
  go_wp2_with fail
  refine Calls.mono (rCloseS (HX.out _ HK9.out.k.bel).rf (HX.out _ HK9.out.k.bel).rh HF1.out) ?_
  rintro e w20 ⟨a20, c20, b20, D20, rfl, p20, r20, bel20⟩
  have h20 := HK9.out.call bel20 r20
  obtain ⟨rfl, rfl⟩ := HP1.out.eq p20
  have HK10 : Hid (Ko W0 w2.heap.size w2 w20 [(w2.heap.size, .int .i64 n, (.slice (some ⟨gw, 0, none⟩) css.length cw))] [il (.slice a11 D11.length c11) D11, cl (.slice a12 cs12.length c12) cs12, il (.slice a14 D14.length c14) D14, il (.slice a17 D11.length c17) D11, cl (.slice a18 cs12.length c18) cs12, il (.slice a19 D14.length c19) D14, il (.slice a20 D11.length c20) D11]) := h20
  clear h20 p20 r20 bel20 HK9
  clear f0 f1 f4
  have f0 := (HX.out _ HK10.out.k.bel).c0
  have f1 := (HX.out _ HK10.out.k.bel).c1
  have f4 := (HX.out _ HK10.out.k.bel).c4
  go_wp2_with fail
  refine Calls.mono (rWhyS (HX.out _ HK10.out.k.bel).rf (HX.out _ HK10.out.k.bel).rh) ?_
  rintro e w21 ⟨a21, c21, cs21, e21, rfl, p21, r21, bel21⟩
  have h21 := HK10.out.call bel21 r21
  obtain ⟨rfl, rfl⟩ := HP2.out.eq p21
  have HK11 : Hid (Ko W0 w2.heap.size w2 w21 [(w2.heap.size, .int .i64 n, (.slice (some ⟨gw, 0, none⟩) css.length cw))] [il (.slice a11 D11.length c11) D11, cl (.slice a12 cs12.length c12) cs12, il (.slice a14 D14.length c14) D14, il (.slice a17 D11.length c17) D11, cl (.slice a18 cs12.length c18) cs12, il (.slice a19 D14.length c19) D14, il (.slice a20 D11.length c20) D11, cl (.slice a21 cs12.length c21) cs12]) := h21
  clear h21 p21 r21 bel21 HK10
  clear f0 f1 f4
  have f0 := (HX.out _ HK11.out.k.bel).c0
  have f1 := (HX.out _ HK11.out.k.bel).c1
  have f4 := (HX.out _ HK11.out.k.bel).c4
  go_wp2_with fail
  refine Calls.mono (rForS (HX.out _ HK11.out.k.bel).rf (HX.out _ HK11.out.k.bel).rh HF1.out) ?_
  rintro e w22 ⟨rfl, bel22⟩
  have HK12 : Hid (Ko W0 w2.heap.size w2 w22 [(w2.heap.size, .int .i64 n, (.slice (some ⟨gw, 0, none⟩) css.length cw))] [il (.slice a11 D11.length c11) D11, cl (.slice a12 cs12.length c12) cs12, il (.slice a14 D14.length c14) D14, il (.slice a17 D11.length c17) D11, cl (.slice a18 cs12.length c18) cs12, il (.slice a19 D14.length c19) D14, il (.slice a20 D11.length c20) D11, cl (.slice a21 cs12.length c21) cs12]) := HK11.out.below bel22
  clear bel22 HK11
  clear f0 f1 f4
  have f0 := (HX.out _ HK12.out.k.bel).c0
  have f1 := (HX.out _ HK12.out.k.bel).c1
  go_wp2_with fail
  refine Calls.mono (rPrbS (HX.out _ HK12.out.k.bel).rf HF1.out) ?_
  rintro e w23 ⟨a23, c23, D23, rfl, p23, r23, bel23⟩
  have h23 := HK12.out.call bel23 r23
  obtain rfl := HP3.out.eq p23
  have HK13 : Hid (Ko W0 w2.heap.size w2 w23 [(w2.heap.size, .int .i64 n, (.slice (some ⟨gw, 0, none⟩) css.length cw))] [il (.slice a11 D11.length c11) D11, cl (.slice a12 cs12.length c12) cs12, il (.slice a14 D14.length c14) D14, il (.slice a17 D11.length c17) D11, cl (.slice a18 cs12.length c18) cs12, il (.slice a19 D14.length c19) D14, il (.slice a20 D11.length c20) D11, cl (.slice a21 cs12.length c21) cs12, il (.slice a23 D14.length c23) D14]) := h23
  clear h23 p23 r23 bel23 HK12
  clear f0 f1
  --D3
  go_wp2_with fail
  refine Calls.mono (sameI ((HK13.out.ints (show il (.slice a17 D11.length c17) D11 ∈ _ by simp)).rd HP1.out.len) ((HK13.out.ints (show il (.slice a20 D11.length c20) D11 ∈ _ by simp)).rd HP1.out.len)) ?_
  rintro e w24 ⟨rfl, bel24⟩
  have HK14 : Hid (Ko W0 w2.heap.size w2 w24 [(w2.heap.size, .int .i64 n, (.slice (some ⟨gw, 0, none⟩) css.length cw))] [il (.slice a11 D11.length c11) D11, cl (.slice a12 cs12.length c12) cs12, il (.slice a14 D14.length c14) D14, il (.slice a17 D11.length c17) D11, cl (.slice a18 cs12.length c18) cs12, il (.slice a19 D14.length c19) D14, il (.slice a20 D11.length c20) D11, cl (.slice a21 cs12.length c21) cs12, il (.slice a23 D14.length c23) D14]) := HK13.out.below bel24
  clear bel24 HK13
  go_wp2_with fail
  refine Calls.mono (sameC_any _ _ cs12 w24 (HK14.out.caus (show cl (.slice a18 cs12.length c18) cs12 ∈ _ by simp)) (HK14.out.caus (show cl (.slice a21 cs12.length c21) cs12 ∈ _ by simp)) HP2.out.len) ?_
  rintro e w25 ⟨rfl, bel25⟩
  have HK15 : Hid (Ko W0 w2.heap.size w2 w25 [(w2.heap.size, .int .i64 n, (.slice (some ⟨gw, 0, none⟩) css.length cw))] [il (.slice a11 D11.length c11) D11, cl (.slice a12 cs12.length c12) cs12, il (.slice a14 D14.length c14) D14, il (.slice a17 D11.length c17) D11, cl (.slice a18 cs12.length c18) cs12, il (.slice a19 D14.length c19) D14, il (.slice a20 D11.length c20) D11, cl (.slice a21 cs12.length c21) cs12, il (.slice a23 D14.length c23) D14]) := HK14.out.below bel25
  clear bel25 HK14
  go_wp2_with fail
  refine Calls.mono (sameI ((HK15.out.ints (show il (.slice a19 D14.length c19) D14 ∈ _ by simp)).rd HP3.out.len) ((HK15.out.ints (show il (.slice a23 D14.length c23) D14 ∈ _ by simp)).rd HP3.out.len)) ?_
  rintro e w26 ⟨rfl, bel26⟩
  have HK16 : Hid (Ko W0 w2.heap.size w2 w26 [(w2.heap.size, .int .i64 n, (.slice (some ⟨gw, 0, none⟩) css.length cw))] [il (.slice a11 D11.length c11) D11, cl (.slice a12 cs12.length c12) cs12, il (.slice a14 D14.length c14) D14, il (.slice a17 D11.length c17) D11, cl (.slice a18 cs12.length c18) cs12, il (.slice a19 D14.length c19) D14, il (.slice a20 D11.length c20) D11, cl (.slice a21 cs12.length c21) cs12, il (.slice a23 D14.length c23) D14]) := HK15.out.below bel26
  clear bel26 HK15
  --D4
  go_upto_region 19 with fail
  have HSx : Hid (∀ W', Below w26.heap.size w26 W' → Below w26.heap.size w26 W' ∧ W'.cell? ⟨w.heap.size, 2, none⟩ = some (.int .i64 m) ∧ W'.cell? ⟨w.heap.size, 3, none⟩ = some t ∧ W'.cell? ⟨w.heap.size, 5, none⟩ = some vo) := fun W' h => ⟨h, (HX.out _ (HK16.out.below h).k.bel).c2, (HX.out _ (HK16.out.below h).k.bel).c3, (HX.out _ (HK16.out.below h).k.bel).c5⟩
  have HCa : Hid (∀ W, Below w26.heap.size w26 W → CpyS m t dss W) := fun W h => cpyS (HX.out _ (HK16.out.below h).k.bel).rg
  have HCb : Hid (∀ W, Below w26.heap.size w26 W → CpiS vo other W) := fun W h => cpiS (HX.out _ (HK16.out.below h).k.bel).ro
  have HC : Hid (∀ W u v, Below w26.heap.size w26 W → Rds W u dss → Rd W v other → CloseS Tryd.prog 11 m u dss v other W) := fun W u v h h1 h2 => uCloseS h1 h2 HF2.out (HX.out _ (HK16.out.below h).k.bel).deb
  have HW1 : Hid (Below w26.heap.size w26 w26.drew) := (Below.refl _ _).drew
  go_cut [34, 35, 36] from 212 to 222 (fun p q r wx => RClo W0 w2.heap.size w2 [(w2.heap.size, .int .i64 n, (.slice (some ⟨gw, 0, none⟩) css.length cw))] [il (.slice a11 D11.length c11) D11, cl (.slice a12 cs12.length c12) cs12, il (.slice a14 D14.length c14) D14, il (.slice a17 D11.length c17) D11, cl (.slice a18 cs12.length c18) cs12, il (.slice a19 D14.length c19) D14, il (.slice a20 D11.length c20) D11, cl (.slice a21 cs12.length c21) cs12, il (.slice a23 D14.length c23) D14] m dss other p q r wx)
  case first =>
    go_region_held (fun W' => Below w26.heap.size w26 W' ∧ W'.cell? ⟨w.heap.size, 2, none⟩ = some (.int .i64 m) ∧ W'.cell? ⟨w.heap.size, 3, none⟩ = some t ∧ W'.cell? ⟨w.heap.size, 5, none⟩ = some vo) (first | exact HSx.out _ HW1.out | exact HSx.out _ BZ.out | exact HSx.out _ BI.out | exact HSx.out _ BC.out) (first | (go_at_call 6; refine Calls.mono (HCa.out _ HW1.out) ?_; rintro e wx ⟨ax, cx, rfl, rx, belx⟩; have BC : Hid (Below w26.heap.size w26 wx) := Below.step HW1.out belx; have RX : Hid (Rds wx (.slice ax dss.length cx) dss) := rx; clear rx belx) | (go_at_call 20; refine Calls.mono (HCb.out _ BC.out) ?_; rintro e wy ⟨ay, cy, rfl, ry, bely⟩; have BI : Hid (Below w26.heap.size w26 wy) := Below.step BC.out bely; have RY : Hid (Rds wy (.slice ax dss.length cx) dss ∧ Rd wy (.slice ay other.length cy) other) := ⟨RX.out.below bely, ry⟩; clear ry bely) | (go_at_call 11; refine Calls.mono (HC.out _ _ _ BI.out RY.out.1 RY.out.2) ?_; rintro e wz ⟨az, cz, bz, Dz, rfl, pz, rz, belz⟩; have BZ : Hid (Below w26.heap.size w26 wz) := Below.step BI.out belz; have F9 : Hid (RClo W0 w2.heap.size w2 [(w2.heap.size, .int .i64 n, (.slice (some ⟨gw, 0, none⟩) css.length cw))] [il (.slice a11 D11.length c11) D11, cl (.slice a12 cs12.length c12) cs12, il (.slice a14 D14.length c14) D14, il (.slice a17 D11.length c17) D11, cl (.slice a18 cs12.length c18) cs12, il (.slice a19 D14.length c19) D14, il (.slice a20 D11.length c20) D11, cl (.slice a21 cs12.length c21) cs12, il (.slice a23 D14.length c23) D14] m dss other (.slice az Dz.length cz) (.bool bz) (.int .i64 (cloE m dss other)) wz) := ⟨az, cz, bz, Dz, rfl, rfl, rfl, pz, (HK16.out.below BI.out).call belz rz⟩; clear pz rz belz))
    go_wp2_with fail
    go_meet
    exact F9.out
  case rest =>
  obtain ⟨a27, c27, b27, D27, rfl, rfl, rfl, p27, k27⟩ := hcut
  generalize wc = w27 at *
  have HP4 : Hid (Cp m dss other b27 D27) := p27
  have HK17 : Hid (Ko W0 w2.heap.size w2 w27 [(w2.heap.size, .int .i64 n, (.slice (some ⟨gw, 0, none⟩) css.length cw))] [il (.slice a11 D11.length c11) D11, cl (.slice a12 cs12.length c12) cs12, il (.slice a14 D14.length c14) D14, il (.slice a17 D11.length c17) D11, cl (.slice a18 cs12.length c18) cs12, il (.slice a19 D14.length c19) D14, il (.slice a20 D11.length c20) D11, cl (.slice a21 cs12.length c21) cs12, il (.slice a23 D14.length c23) D14, il (.slice a27 D27.length c27) D27]) := k27
  clear HSx HCa HCb HC HW1 k27 HK16 p27
  go_upto_region 20 with fail
  have HSx : Hid (∀ W', Below w27.heap.size w27 W' → Below w27.heap.size w27 W' ∧ W'.cell? ⟨w.heap.size, 2, none⟩ = some (.int .i64 m) ∧ W'.cell? ⟨w.heap.size, 3, none⟩ = some t ∧ W'.cell? ⟨w.heap.size, 5, none⟩ = some vo) := fun W' h => ⟨h, (HX.out _ (HK17.out.below h).k.bel).c2, (HX.out _ (HK17.out.below h).k.bel).c3, (HX.out _ (HK17.out.below h).k.bel).c5⟩
  have HCa : Hid (∀ W, Below w27.heap.size w27 W → CpyS m t dss W) := fun W h => cpyS (HX.out _ (HK17.out.below h).k.bel).rg
  have HCb : Hid (∀ W, Below w27.heap.size w27 W → CpiS vo other W) := fun W h => cpiS (HX.out _ (HK17.out.below h).k.bel).ro
  have HC : Hid (∀ W u v, Below w27.heap.size w27 W → Rds W u dss → Rd W v other → WhyS Tryd.prog 12 m u dss v other W) := fun W u v h h1 h2 => uWhyS h1 h2 HF2.out (HX.out _ (HK17.out.below h).k.bel).deb
  have HW1 : Hid (Below w27.heap.size w27 w27.drew) := (Below.refl _ _).drew
  go_cut [37, 38, 39] from 223 to 233 (fun p q r wx => RWhy W0 w2.heap.size w2 [(w2.heap.size, .int .i64 n, (.slice (some ⟨gw, 0, none⟩) css.length cw))] [il (.slice a11 D11.length c11) D11, cl (.slice a12 cs12.length c12) cs12, il (.slice a14 D14.length c14) D14, il (.slice a17 D11.length c17) D11, cl (.slice a18 cs12.length c18) cs12, il (.slice a19 D14.length c19) D14, il (.slice a20 D11.length c20) D11, cl (.slice a21 cs12.length c21) cs12, il (.slice a23 D14.length c23) D14, il (.slice a27 D27.length c27) D27] m dss other p q r wx)
  case first =>
    go_region_held (fun W' => Below w27.heap.size w27 W' ∧ W'.cell? ⟨w.heap.size, 2, none⟩ = some (.int .i64 m) ∧ W'.cell? ⟨w.heap.size, 3, none⟩ = some t ∧ W'.cell? ⟨w.heap.size, 5, none⟩ = some vo) (first | exact HSx.out _ HW1.out | exact HSx.out _ BZ.out | exact HSx.out _ BI.out | exact HSx.out _ BC.out) (first | (go_at_call 6; refine Calls.mono (HCa.out _ HW1.out) ?_; rintro e wx ⟨ax, cx, rfl, rx, belx⟩; have BC : Hid (Below w27.heap.size w27 wx) := Below.step HW1.out belx; have RX : Hid (Rds wx (.slice ax dss.length cx) dss) := rx; clear rx belx) | (go_at_call 20; refine Calls.mono (HCb.out _ BC.out) ?_; rintro e wy ⟨ay, cy, rfl, ry, bely⟩; have BI : Hid (Below w27.heap.size w27 wy) := Below.step BC.out bely; have RY : Hid (Rds wy (.slice ax dss.length cx) dss ∧ Rd wy (.slice ay other.length cy) other) := ⟨RX.out.below bely, ry⟩; clear ry bely) | (go_at_call 12; refine Calls.mono (HC.out _ _ _ BI.out RY.out.1 RY.out.2) ?_; rintro e wz ⟨az, cz, csz, ez, rfl, pz, rz, belz⟩; have BZ : Hid (Below w27.heap.size w27 wz) := Below.step BI.out belz; have F9 : Hid (RWhy W0 w2.heap.size w2 [(w2.heap.size, .int .i64 n, (.slice (some ⟨gw, 0, none⟩) css.length cw))] [il (.slice a11 D11.length c11) D11, cl (.slice a12 cs12.length c12) cs12, il (.slice a14 D14.length c14) D14, il (.slice a17 D11.length c17) D11, cl (.slice a18 cs12.length c18) cs12, il (.slice a19 D14.length c19) D14, il (.slice a20 D11.length c20) D11, cl (.slice a21 cs12.length c21) cs12, il (.slice a23 D14.length c23) D14, il (.slice a27 D27.length c27) D27] m dss other (.slice az csz.length cz) (.int .i64 ez) (.int .i64 (whyE m dss other)) wz) := ⟨az, cz, csz, ez, rfl, rfl, rfl, pz, (HK17.out.below BI.out).call belz rz⟩; clear pz rz belz))
    go_wp2_with fail
    go_meet
    exact F9.out
  case rest =>
  obtain ⟨a28, c28, cs28, e28, rfl, rfl, rfl, p28, k28⟩ := hcut
  generalize wc = w28 at *
  have HP5 : Hid (Wp m dss other cs28 e28) := p28
  have HK18 : Hid (Ko W0 w2.heap.size w2 w28 [(w2.heap.size, .int .i64 n, (.slice (some ⟨gw, 0, none⟩) css.length cw))] [il (.slice a11 D11.length c11) D11, cl (.slice a12 cs12.length c12) cs12, il (.slice a14 D14.length c14) D14, il (.slice a17 D11.length c17) D11, cl (.slice a18 cs12.length c18) cs12, il (.slice a19 D14.length c19) D14, il (.slice a20 D11.length c20) D11, cl (.slice a21 cs12.length c21) cs12, il (.slice a23 D14.length c23) D14, il (.slice a27 D27.length c27) D27, cl (.slice a28 cs28.length c28) cs28]) := k28
  clear HSx HCa HCb HC HW1 k28 HK17 p28
  --D5
  go_upto_region 21 with fail
  have HSx : Hid (∀ W', Below w28.heap.size w28 W' → Below w28.heap.size w28 W' ∧ W'.cell? ⟨w2.heap.size, 0, none⟩ = some (.int .i64 n) ∧ W'.cell? ⟨w2.heap.size, 1, none⟩ = some (.slice (some ⟨gw, 0, none⟩) css.length cw) ∧ W'.cell? ⟨w.heap.size, 4, none⟩ = some (.slice af facts.length cf)) := fun W' h => ⟨h, ((HK18.out.below h).k.bx _ (List.mem_cons_self ..)).1.c0, ((HK18.out.below h).k.bx _ (List.mem_cons_self ..)).1.c1, (HX.out _ (HK18.out.below h).k.bel).c4⟩
  have HC : Hid (∀ W, Below w28.heap.size w28 W → CloseS Tryd.prog 11 n (.slice (some ⟨gw, 0, none⟩) css.length cw) css (.slice (some ⟨gq, 0, none⟩) facts.length cq) facts W) := fun W h => uCloseS (HRd.out _ (HK18.out.below h).k.ref).1 (HRd.out _ (HK18.out.below h).k.ref).2 HF1.out (HX.out _ (HK18.out.below h).k.bel).deb
  have HW1 : Hid (Below w28.heap.size w28 w28.drew) := (Below.refl _ _).drew
  go_cut [] from 234 to 240 (fun wx => Ko W0 w2.heap.size w2 wx [(w2.heap.size, .int .i64 n, (.slice (some ⟨gw, 0, none⟩) css.length cw))] [il (.slice a11 D11.length c11) D11, cl (.slice a12 cs12.length c12) cs12, il (.slice a14 D14.length c14) D14, il (.slice a17 D11.length c17) D11, cl (.slice a18 cs12.length c18) cs12, il (.slice a19 D14.length c19) D14, il (.slice a20 D11.length c20) D11, cl (.slice a21 cs12.length c21) cs12, il (.slice a23 D14.length c23) D14, il (.slice a27 D27.length c27) D27, cl (.slice a28 cs28.length c28) cs28])
  case first =>
    go_region_held (fun W' => Below w28.heap.size w28 W' ∧ W'.cell? ⟨w2.heap.size, 0, none⟩ = some (.int .i64 n) ∧ W'.cell? ⟨w2.heap.size, 1, none⟩ = some (.slice (some ⟨gw, 0, none⟩) css.length cw) ∧ W'.cell? ⟨w.heap.size, 4, none⟩ = some (.slice af facts.length cf)) (first | exact HSx.out _ HW1.out | exact HSx.out _ BZ.out) (first | (go_at_call 11; refine Calls.mono (HC.out _ HW1.out) ?_; rintro e wz ⟨az, cz, bz, Dz, rfl, pz, rz, belz⟩; have BZ : Hid (Below w28.heap.size w28 wz) := Below.step HW1.out belz; have F9 : Hid (Ko W0 w2.heap.size w2 wz [(w2.heap.size, .int .i64 n, (.slice (some ⟨gw, 0, none⟩) css.length cw))] [il (.slice a11 D11.length c11) D11, cl (.slice a12 cs12.length c12) cs12, il (.slice a14 D14.length c14) D14, il (.slice a17 D11.length c17) D11, cl (.slice a18 cs12.length c18) cs12, il (.slice a19 D14.length c19) D14, il (.slice a20 D11.length c20) D11, cl (.slice a21 cs12.length c21) cs12, il (.slice a23 D14.length c23) D14, il (.slice a27 D27.length c27) D27, cl (.slice a28 cs28.length c28) cs28]) := (HK18.out.below HW1.out).below belz; clear pz rz belz))
    go_wp2_with fail
    go_meet
    exact F9.out
  case rest =>
  generalize wc = w29 at *
  have HK19 : Hid (Ko W0 w2.heap.size w2 w29 [(w2.heap.size, .int .i64 n, (.slice (some ⟨gw, 0, none⟩) css.length cw))] [il (.slice a11 D11.length c11) D11, cl (.slice a12 cs12.length c12) cs12, il (.slice a14 D14.length c14) D14, il (.slice a17 D11.length c17) D11, cl (.slice a18 cs12.length c18) cs12, il (.slice a19 D14.length c19) D14, il (.slice a20 D11.length c20) D11, cl (.slice a21 cs12.length c21) cs12, il (.slice a23 D14.length c23) D14, il (.slice a27 D27.length c27) D27, cl (.slice a28 cs28.length c28) cs28]) := hcut
  clear HSx HC HW1 hcut HK18
  --D6
  have x0 := (HA.out.below HK19.out.k.ref).x.c0
  have x1 := (HA.out.below HK19.out.k.ref).x.c1
  have x2 := (HA.out.below HK19.out.k.ref).x.c2
  go_wp2_with fail
  refine Calls.mono (overRows2_any W0.heap.size (.slice (some ⟨gw, 0, none⟩) css.length cw) (.slice ar L.length cr) gw cw (css.length + 64) L (L.map cutV ++ M.map Prod.fst) M w29 (HA.out.below HK19.out.k.ref).k.l (by have := HLo.out.2; rw [List.length_append, List.length_map, List.length_map]; omega) (by have := H8.out.2.1; omega) (by have := HLo.out.2; have := H8.out.2.1; omega) (fun y hy => by
    have h1 := HA.out.k.ls
    have h2 : y.2 ∈ css.map (· ++ m64) := by rw [← h1]; exact List.mem_map_of_mem hy
    obtain ⟨z, hz, e⟩ := List.mem_map.1 h2
    have h3 := H8.out.1 z hz
    rw [← e]
    simp only [List.length_append, m64_len]
    omega) HK19.out.k.bel.size) ?_
  rintro e w30 ⟨rfl, hf30, hr30⟩
  have HK20 : Hid (Ko W0 w2.heap.size w30 w30 [(w2.heap.size, .int .i64 n, (.slice (some ⟨gw, 0, none⟩) css.length cw))] [il (.slice a11 D11.length c11) D11, cl (.slice a12 cs12.length c12) cs12, il (.slice a14 D14.length c14) D14, il (.slice a17 D11.length c17) D11, cl (.slice a18 cs12.length c18) cs12, il (.slice a19 D14.length c19) D14, il (.slice a20 D11.length c20) D11, cl (.slice a21 cs12.length c21) cs12, il (.slice a23 D14.length c23) D14, il (.slice a27 D27.length c27) D27, cl (.slice a28 cs28.length c28) cs28]) := HK19.out.out hf30 (fun k hk => by have := HLo.out.1 k hk; have := HS2.out; omega)
  have HQ30 : Hid (Own w1b.heap.size w30 (.slice (some ⟨gq, 0, none⟩) (facts.length + 64) cq) (facts ++ m64)) := own_out (HA.out.below HK19.out.k.ref).q hf30 (fun k hk => by have := HLo.out.1 k hk; have := HS2.out; omega)
  have HR30 : Hid (∀ W', Fr (fun k => k = gq) w30 W' → Rds W' (.slice (some ⟨gw, 0, none⟩) css.length cw) (List.replicate css.length [1, -1, 2])) := fun W' h => hr30 css.length (by omega) (fun k => k = gq) W' h (fun k hk => by have := HQo.out; have := HS2.out; have := HK19.out.k.sz; omega)
  clear hf30 hr30 x0 x1 x2 HK19
  go_wp2_with fail
  refine Calls.mono (over_any w1b.heap.size (.slice (some ⟨gq, 0, none⟩) (facts.length + 64) cq) (facts ++ m64) w30 HQ30.out (by rw [List.length_append, m64_len]; have := H8.out.2.2; omega)) ?_
  rintro e w31 ⟨⟨v31, rfl⟩, ⟨Z, hZ, own31⟩, hg31⟩
  have hf31 : Fr (fun k => k = gq) w30 w31 := (Fr.refl _ _).grown hg31 (fun g e => by simpa [Value.ownBlock] using e.symm)
  have HK21 : Hid (Ko W0 w2.heap.size w31 w31 [(w2.heap.size, .int .i64 n, (.slice (some ⟨gw, 0, none⟩) css.length cw))] [il (.slice a11 D11.length c11) D11, cl (.slice a12 cs12.length c12) cs12, il (.slice a14 D14.length c14) D14, il (.slice a17 D11.length c17) D11, cl (.slice a18 cs12.length c18) cs12, il (.slice a19 D14.length c19) D14, il (.slice a20 D11.length c20) D11, cl (.slice a21 cs12.length c21) cs12, il (.slice a23 D14.length c23) D14, il (.slice a27 D27.length c27) D27, cl (.slice a28 cs28.length c28) cs28]) := HK20.out.out hf31 (fun k hk => by have := HQo.out; have := HS2.out; omega)
  have hR31 := HR30.out w31 hf31
  obtain ⟨facts3, hl3, hp3⟩ : ∃ facts3 : List Int, facts3.length = facts.length ∧ Own w1b.heap.size w31 (.slice (some ⟨gq, 0, none⟩) (facts.length + 64) cq) (facts3 ++ Z.drop facts.length) := by
    rw [List.length_append, m64_len] at hZ
    refine ⟨Z.take facts.length, by rw [List.length_take]; omega, ?_⟩
    rw [List.take_append_drop]
    exact own31
  have HRd3 : Hid (∀ W, Below w31.heap.size w31 W → Rds W (.slice (some ⟨gw, 0, none⟩) css.length cw) (List.replicate css.length [1, -1, 2]) ∧ Rd W (.slice (some ⟨gq, 0, none⟩) facts.length cq) facts3) := fun W h => ⟨hR31.below h, by have h5 := own_hd (hp3.below h) (by omega) (by have := H8.out.2.2; omega); rw [hl3] at h5; exact h5⟩
  have HF3 : Hid (Few (List.replicate css.length [1, -1, 2])) := few3 H8.out.2.1
  clear hg31 hf31 hR31 hZ own31 hp3 hl3 HR30 HQ30 HK20 HRd HA
  have HRd := HRd3
  clear HRd3
  --D7
  go_wp2_with fail
  refine Calls.mono (sameI ((HK21.out.ints (show il (.slice a11 D11.length c11) D11 ∈ _ by simp)).rd HP1.out.len) ((HK21.out.ints (show il (.slice a20 D11.length c20) D11 ∈ _ by simp)).rd HP1.out.len)) ?_
  rintro e w32 ⟨rfl, bel32⟩
  have HK22 : Hid (Ko W0 w2.heap.size w31 w32 [(w2.heap.size, .int .i64 n, (.slice (some ⟨gw, 0, none⟩) css.length cw))] [il (.slice a11 D11.length c11) D11, cl (.slice a12 cs12.length c12) cs12, il (.slice a14 D14.length c14) D14, il (.slice a17 D11.length c17) D11, cl (.slice a18 cs12.length c18) cs12, il (.slice a19 D14.length c19) D14, il (.slice a20 D11.length c20) D11, cl (.slice a21 cs12.length c21) cs12, il (.slice a23 D14.length c23) D14, il (.slice a27 D27.length c27) D27, cl (.slice a28 cs28.length c28) cs28]) := HK21.out.below bel32
  clear bel32 HK21
  go_wp2_with fail
  refine Calls.mono (sameC_any _ _ cs12 w32 (HK22.out.caus (show cl (.slice a12 cs12.length c12) cs12 ∈ _ by simp)) (HK22.out.caus (show cl (.slice a21 cs12.length c21) cs12 ∈ _ by simp)) HP2.out.len) ?_
  rintro e w33 ⟨rfl, bel33⟩
  have HK23 : Hid (Ko W0 w2.heap.size w31 w33 [(w2.heap.size, .int .i64 n, (.slice (some ⟨gw, 0, none⟩) css.length cw))] [il (.slice a11 D11.length c11) D11, cl (.slice a12 cs12.length c12) cs12, il (.slice a14 D14.length c14) D14, il (.slice a17 D11.length c17) D11, cl (.slice a18 cs12.length c18) cs12, il (.slice a19 D14.length c19) D14, il (.slice a20 D11.length c20) D11, cl (.slice a21 cs12.length c21) cs12, il (.slice a23 D14.length c23) D14, il (.slice a27 D27.length c27) D27, cl (.slice a28 cs28.length c28) cs28]) := HK22.out.below bel33
  clear bel33 HK22
  go_wp2_with fail
  refine Calls.mono (sameI ((HK23.out.ints (show il (.slice a14 D14.length c14) D14 ∈ _ by simp)).rd HP3.out.len) ((HK23.out.ints (show il (.slice a23 D14.length c23) D14 ∈ _ by simp)).rd HP3.out.len)) ?_
  rintro e w34 ⟨rfl, bel34⟩
  have HK24 : Hid (Ko W0 w2.heap.size w31 w34 [(w2.heap.size, .int .i64 n, (.slice (some ⟨gw, 0, none⟩) css.length cw))] [il (.slice a11 D11.length c11) D11, cl (.slice a12 cs12.length c12) cs12, il (.slice a14 D14.length c14) D14, il (.slice a17 D11.length c17) D11, cl (.slice a18 cs12.length c18) cs12, il (.slice a19 D14.length c19) D14, il (.slice a20 D11.length c20) D11, cl (.slice a21 cs12.length c21) cs12, il (.slice a23 D14.length c23) D14, il (.slice a27 D27.length c27) D27, cl (.slice a28 cs28.length c28) cs28]) := HK23.out.below bel34
  clear bel34 HK23
  --D8
  go_upto_region 26 with fail
  have HSx : Hid (∀ W', Below w34.heap.size w34 W' → Below w34.heap.size w34 W' ∧ W'.cell? ⟨w2.heap.size, 0, none⟩ = some (.int .i64 n) ∧ W'.cell? ⟨w2.heap.size, 1, none⟩ = some (.slice (some ⟨gw, 0, none⟩) css.length cw) ∧ W'.cell? ⟨w.heap.size, 4, none⟩ = some (.slice af facts.length cf)) := fun W' h => ⟨h, ((HK24.out.below h).k.bx _ (List.mem_cons_self ..)).1.c0, ((HK24.out.below h).k.bx _ (List.mem_cons_self ..)).1.c1, (HX.out _ (HK24.out.below h).k.bel).c4⟩
  have HC : Hid (∀ W, Below w34.heap.size w34 W → CloseS Tryd.prog 16 n (.slice (some ⟨gw, 0, none⟩) css.length cw) (List.replicate css.length [1, -1, 2]) (.slice (some ⟨gq, 0, none⟩) facts.length cq) facts3 W) := fun W h => rCloseS (HRd.out _ (HK24.out.below h).k.ref).1 (HRd.out _ (HK24.out.below h).k.ref).2 HF3.out
  have HW1 : Hid (Below w34.heap.size w34 w34.drew) := (Below.refl _ _).drew
  go_cut [24, 25, 26] from 261 to 271 (fun p q r wx => RClo W0 w2.heap.size w31 [(w2.heap.size, .int .i64 n, (.slice (some ⟨gw, 0, none⟩) css.length cw))] [il (.slice a11 D11.length c11) D11, cl (.slice a12 cs12.length c12) cs12, il (.slice a14 D14.length c14) D14, il (.slice a17 D11.length c17) D11, cl (.slice a18 cs12.length c18) cs12, il (.slice a19 D14.length c19) D14, il (.slice a20 D11.length c20) D11, cl (.slice a21 cs12.length c21) cs12, il (.slice a23 D14.length c23) D14, il (.slice a27 D27.length c27) D27, cl (.slice a28 cs28.length c28) cs28] n (List.replicate css.length [1, -1, 2]) facts3 p q r wx)
  case first =>
    go_region_held (fun W' => Below w34.heap.size w34 W' ∧ W'.cell? ⟨w2.heap.size, 0, none⟩ = some (.int .i64 n) ∧ W'.cell? ⟨w2.heap.size, 1, none⟩ = some (.slice (some ⟨gw, 0, none⟩) css.length cw) ∧ W'.cell? ⟨w.heap.size, 4, none⟩ = some (.slice af facts.length cf)) (first | exact HSx.out _ HW1.out | exact HSx.out _ BZ.out) (first | (go_at_call 16; refine Calls.mono (HC.out _ HW1.out) ?_; rintro e wz ⟨az, cz, bz, Dz, rfl, pz, rz, belz⟩; have BZ : Hid (Below w34.heap.size w34 wz) := Below.step HW1.out belz; have F9 : Hid (RClo W0 w2.heap.size w31 [(w2.heap.size, .int .i64 n, (.slice (some ⟨gw, 0, none⟩) css.length cw))] [il (.slice a11 D11.length c11) D11, cl (.slice a12 cs12.length c12) cs12, il (.slice a14 D14.length c14) D14, il (.slice a17 D11.length c17) D11, cl (.slice a18 cs12.length c18) cs12, il (.slice a19 D14.length c19) D14, il (.slice a20 D11.length c20) D11, cl (.slice a21 cs12.length c21) cs12, il (.slice a23 D14.length c23) D14, il (.slice a27 D27.length c27) D27, cl (.slice a28 cs28.length c28) cs28] n (List.replicate css.length [1, -1, 2]) facts3 (.slice az Dz.length cz) (.bool bz) (.int .i64 (cloE n (List.replicate css.length [1, -1, 2]) facts3)) wz) := ⟨az, cz, bz, Dz, rfl, rfl, rfl, pz, (HK24.out.below HW1.out).call belz rz⟩; clear pz rz belz))
    go_wp2_with fail
    go_meet
    exact F9.out
  case rest =>
  obtain ⟨a35, c35, b35, D35, rfl, rfl, rfl, p35, k35⟩ := hcut
  generalize wc = w35 at *
  have HP6 : Hid (Cp n (List.replicate css.length [1, -1, 2]) facts3 b35 D35) := p35
  have HK25 : Hid (Ko W0 w2.heap.size w31 w35 [(w2.heap.size, .int .i64 n, (.slice (some ⟨gw, 0, none⟩) css.length cw))] [il (.slice a11 D11.length c11) D11, cl (.slice a12 cs12.length c12) cs12, il (.slice a14 D14.length c14) D14, il (.slice a17 D11.length c17) D11, cl (.slice a18 cs12.length c18) cs12, il (.slice a19 D14.length c19) D14, il (.slice a20 D11.length c20) D11, cl (.slice a21 cs12.length c21) cs12, il (.slice a23 D14.length c23) D14, il (.slice a27 D27.length c27) D27, cl (.slice a28 cs28.length c28) cs28, il (.slice a35 D35.length c35) D35]) := k35
  clear HSx HC HW1 k35 HK24 p35
  go_upto_region 27 with fail
  have HSx : Hid (∀ W', Below w35.heap.size w35 W' → Below w35.heap.size w35 W' ∧ W'.cell? ⟨w2.heap.size, 0, none⟩ = some (.int .i64 n) ∧ W'.cell? ⟨w2.heap.size, 1, none⟩ = some (.slice (some ⟨gw, 0, none⟩) css.length cw) ∧ W'.cell? ⟨w.heap.size, 4, none⟩ = some (.slice af facts.length cf)) := fun W' h => ⟨h, ((HK25.out.below h).k.bx _ (List.mem_cons_self ..)).1.c0, ((HK25.out.below h).k.bx _ (List.mem_cons_self ..)).1.c1, (HX.out _ (HK25.out.below h).k.bel).c4⟩
  have HC : Hid (∀ W, Below w35.heap.size w35 W → CloseS Tryd.prog 11 n (.slice (some ⟨gw, 0, none⟩) css.length cw) (List.replicate css.length [1, -1, 2]) (.slice (some ⟨gq, 0, none⟩) facts.length cq) facts3 W) := fun W h => uCloseS (HRd.out _ (HK25.out.below h).k.ref).1 (HRd.out _ (HK25.out.below h).k.ref).2 HF3.out (HX.out _ (HK25.out.below h).k.bel).deb
  have HW1 : Hid (Below w35.heap.size w35 w35.drew) := (Below.refl _ _).drew
  go_cut [40, 41, 42] from 272 to 282 (fun p q r wx => RClo W0 w2.heap.size w31 [(w2.heap.size, .int .i64 n, (.slice (some ⟨gw, 0, none⟩) css.length cw))] [il (.slice a11 D11.length c11) D11, cl (.slice a12 cs12.length c12) cs12, il (.slice a14 D14.length c14) D14, il (.slice a17 D11.length c17) D11, cl (.slice a18 cs12.length c18) cs12, il (.slice a19 D14.length c19) D14, il (.slice a20 D11.length c20) D11, cl (.slice a21 cs12.length c21) cs12, il (.slice a23 D14.length c23) D14, il (.slice a27 D27.length c27) D27, cl (.slice a28 cs28.length c28) cs28, il (.slice a35 D35.length c35) D35] n (List.replicate css.length [1, -1, 2]) facts3 p q r wx)
  case first =>
    go_region_held (fun W' => Below w35.heap.size w35 W' ∧ W'.cell? ⟨w2.heap.size, 0, none⟩ = some (.int .i64 n) ∧ W'.cell? ⟨w2.heap.size, 1, none⟩ = some (.slice (some ⟨gw, 0, none⟩) css.length cw) ∧ W'.cell? ⟨w.heap.size, 4, none⟩ = some (.slice af facts.length cf)) (first | exact HSx.out _ HW1.out | exact HSx.out _ BZ.out) (first | (go_at_call 11; refine Calls.mono (HC.out _ HW1.out) ?_; rintro e wz ⟨az, cz, bz, Dz, rfl, pz, rz, belz⟩; have BZ : Hid (Below w35.heap.size w35 wz) := Below.step HW1.out belz; have F9 : Hid (RClo W0 w2.heap.size w31 [(w2.heap.size, .int .i64 n, (.slice (some ⟨gw, 0, none⟩) css.length cw))] [il (.slice a11 D11.length c11) D11, cl (.slice a12 cs12.length c12) cs12, il (.slice a14 D14.length c14) D14, il (.slice a17 D11.length c17) D11, cl (.slice a18 cs12.length c18) cs12, il (.slice a19 D14.length c19) D14, il (.slice a20 D11.length c20) D11, cl (.slice a21 cs12.length c21) cs12, il (.slice a23 D14.length c23) D14, il (.slice a27 D27.length c27) D27, cl (.slice a28 cs28.length c28) cs28, il (.slice a35 D35.length c35) D35] n (List.replicate css.length [1, -1, 2]) facts3 (.slice az Dz.length cz) (.bool bz) (.int .i64 (cloE n (List.replicate css.length [1, -1, 2]) facts3)) wz) := ⟨az, cz, bz, Dz, rfl, rfl, rfl, pz, (HK25.out.below HW1.out).call belz rz⟩; clear pz rz belz))
    go_wp2_with fail
    go_meet
    exact F9.out
  case rest =>
  obtain ⟨a36, c36, b36, D36, rfl, rfl, rfl, p36, k36⟩ := hcut
  generalize wc = w36 at *
  obtain ⟨rfl, rfl⟩ := HP6.out.eq p36
  have HK26 : Hid (Ko W0 w2.heap.size w31 w36 [(w2.heap.size, .int .i64 n, (.slice (some ⟨gw, 0, none⟩) css.length cw))] [il (.slice a11 D11.length c11) D11, cl (.slice a12 cs12.length c12) cs12, il (.slice a14 D14.length c14) D14, il (.slice a17 D11.length c17) D11, cl (.slice a18 cs12.length c18) cs12, il (.slice a19 D14.length c19) D14, il (.slice a20 D11.length c20) D11, cl (.slice a21 cs12.length c21) cs12, il (.slice a23 D14.length c23) D14, il (.slice a27 D27.length c27) D27, cl (.slice a28 cs28.length c28) cs28, il (.slice a35 D35.length c35) D35, il (.slice a36 D35.length c36) D35]) := k36
  clear HSx HC HW1 k36 HK25 p36
  go_wp2_with fail
  refine Calls.mono (sameI ((HK26.out.ints (show il (.slice a36 D35.length c36) D35 ∈ _ by simp)).rd HP6.out.len) ((HK26.out.ints (show il (.slice a35 D35.length c35) D35 ∈ _ by simp)).rd HP6.out.len)) ?_
  rintro e w37 ⟨rfl, bel37⟩
  have HK27 : Hid (Ko W0 w2.heap.size w31 w37 [(w2.heap.size, .int .i64 n, (.slice (some ⟨gw, 0, none⟩) css.length cw))] [il (.slice a11 D11.length c11) D11, cl (.slice a12 cs12.length c12) cs12, il (.slice a14 D14.length c14) D14, il (.slice a17 D11.length c17) D11, cl (.slice a18 cs12.length c18) cs12, il (.slice a19 D14.length c19) D14, il (.slice a20 D11.length c20) D11, cl (.slice a21 cs12.length c21) cs12, il (.slice a23 D14.length c23) D14, il (.slice a27 D27.length c27) D27, cl (.slice a28 cs28.length c28) cs28, il (.slice a35 D35.length c35) D35, il (.slice a36 D35.length c36) D35]) := HK26.out.below bel37
  clear bel37 HK26
  go_upto_region 30 with fail
  have HSx : Hid (∀ W', Below w37.heap.size w37 W' → Below w37.heap.size w37 W' ∧ W'.cell? ⟨w2.heap.size, 0, none⟩ = some (.int .i64 n) ∧ W'.cell? ⟨w2.heap.size, 1, none⟩ = some (.slice (some ⟨gw, 0, none⟩) css.length cw) ∧ W'.cell? ⟨w.heap.size, 4, none⟩ = some (.slice af facts.length cf)) := fun W' h => ⟨h, ((HK27.out.below h).k.bx _ (List.mem_cons_self ..)).1.c0, ((HK27.out.below h).k.bx _ (List.mem_cons_self ..)).1.c1, (HX.out _ (HK27.out.below h).k.bel).c4⟩
  have HC : Hid (∀ W, Below w37.heap.size w37 W → WhyS Tryd.prog 12 n (.slice (some ⟨gw, 0, none⟩) css.length cw) (List.replicate css.length [1, -1, 2]) (.slice (some ⟨gq, 0, none⟩) facts.length cq) facts3 W) := fun W h => uWhyS (HRd.out _ (HK27.out.below h).k.ref).1 (HRd.out _ (HK27.out.below h).k.ref).2 HF3.out (HX.out _ (HK27.out.below h).k.bel).deb
  have HW1 : Hid (Below w37.heap.size w37 w37.drew) := (Below.refl _ _).drew
  go_cut [43, 44, 45] from 297 to 307 (fun p q r wx => RWhy W0 w2.heap.size w31 [(w2.heap.size, .int .i64 n, (.slice (some ⟨gw, 0, none⟩) css.length cw))] [il (.slice a11 D11.length c11) D11, cl (.slice a12 cs12.length c12) cs12, il (.slice a14 D14.length c14) D14, il (.slice a17 D11.length c17) D11, cl (.slice a18 cs12.length c18) cs12, il (.slice a19 D14.length c19) D14, il (.slice a20 D11.length c20) D11, cl (.slice a21 cs12.length c21) cs12, il (.slice a23 D14.length c23) D14, il (.slice a27 D27.length c27) D27, cl (.slice a28 cs28.length c28) cs28, il (.slice a35 D35.length c35) D35, il (.slice a36 D35.length c36) D35] n (List.replicate css.length [1, -1, 2]) facts3 p q r wx)
  case first =>
    go_region_held (fun W' => Below w37.heap.size w37 W' ∧ W'.cell? ⟨w2.heap.size, 0, none⟩ = some (.int .i64 n) ∧ W'.cell? ⟨w2.heap.size, 1, none⟩ = some (.slice (some ⟨gw, 0, none⟩) css.length cw) ∧ W'.cell? ⟨w.heap.size, 4, none⟩ = some (.slice af facts.length cf)) (first | exact HSx.out _ HW1.out | exact HSx.out _ BZ.out) (first | (go_at_call 12; refine Calls.mono (HC.out _ HW1.out) ?_; rintro e wz ⟨az, cz, csz, ez, rfl, pz, rz, belz⟩; have BZ : Hid (Below w37.heap.size w37 wz) := Below.step HW1.out belz; have F9 : Hid (RWhy W0 w2.heap.size w31 [(w2.heap.size, .int .i64 n, (.slice (some ⟨gw, 0, none⟩) css.length cw))] [il (.slice a11 D11.length c11) D11, cl (.slice a12 cs12.length c12) cs12, il (.slice a14 D14.length c14) D14, il (.slice a17 D11.length c17) D11, cl (.slice a18 cs12.length c18) cs12, il (.slice a19 D14.length c19) D14, il (.slice a20 D11.length c20) D11, cl (.slice a21 cs12.length c21) cs12, il (.slice a23 D14.length c23) D14, il (.slice a27 D27.length c27) D27, cl (.slice a28 cs28.length c28) cs28, il (.slice a35 D35.length c35) D35, il (.slice a36 D35.length c36) D35] n (List.replicate css.length [1, -1, 2]) facts3 (.slice az csz.length cz) (.int .i64 ez) (.int .i64 (whyE n (List.replicate css.length [1, -1, 2]) facts3)) wz) := ⟨az, cz, csz, ez, rfl, rfl, rfl, pz, (HK27.out.below HW1.out).call belz rz⟩; clear pz rz belz))
    go_wp2_with fail
    go_meet
    exact F9.out
  case rest =>
  obtain ⟨a38, c38, cs38, e38, rfl, rfl, rfl, p38, k38⟩ := hcut
  generalize wc = w38 at *
  have HP7 : Hid (Wp n (List.replicate css.length [1, -1, 2]) facts3 cs38 e38) := p38
  have HK28 : Hid (Ko W0 w2.heap.size w31 w38 [(w2.heap.size, .int .i64 n, (.slice (some ⟨gw, 0, none⟩) css.length cw))] [il (.slice a11 D11.length c11) D11, cl (.slice a12 cs12.length c12) cs12, il (.slice a14 D14.length c14) D14, il (.slice a17 D11.length c17) D11, cl (.slice a18 cs12.length c18) cs12, il (.slice a19 D14.length c19) D14, il (.slice a20 D11.length c20) D11, cl (.slice a21 cs12.length c21) cs12, il (.slice a23 D14.length c23) D14, il (.slice a27 D27.length c27) D27, cl (.slice a28 cs28.length c28) cs28, il (.slice a35 D35.length c35) D35, il (.slice a36 D35.length c36) D35, cl (.slice a38 cs38.length c38) cs38]) := k38
  clear HSx HC HW1 k38 HK27 p38
  go_upto_region 31 with fail
  have HSx : Hid (∀ W', Below w38.heap.size w38 W' → Below w38.heap.size w38 W' ∧ W'.cell? ⟨w2.heap.size, 0, none⟩ = some (.int .i64 n) ∧ W'.cell? ⟨w2.heap.size, 1, none⟩ = some (.slice (some ⟨gw, 0, none⟩) css.length cw) ∧ W'.cell? ⟨w.heap.size, 4, none⟩ = some (.slice af facts.length cf)) := fun W' h => ⟨h, ((HK28.out.below h).k.bx _ (List.mem_cons_self ..)).1.c0, ((HK28.out.below h).k.bx _ (List.mem_cons_self ..)).1.c1, (HX.out _ (HK28.out.below h).k.bel).c4⟩
  have HC : Hid (∀ W, Below w38.heap.size w38 W → WhyS Tryd.prog 17 n (.slice (some ⟨gw, 0, none⟩) css.length cw) (List.replicate css.length [1, -1, 2]) (.slice (some ⟨gq, 0, none⟩) facts.length cq) facts3 W) := fun W h => rWhyS (HRd.out _ (HK28.out.below h).k.ref).1 (HRd.out _ (HK28.out.below h).k.ref).2
  have HW1 : Hid (Below w38.heap.size w38 w38.drew) := (Below.refl _ _).drew
  go_cut [27, 28, 29] from 308 to 318 (fun p q r wx => RWhy W0 w2.heap.size w31 [(w2.heap.size, .int .i64 n, (.slice (some ⟨gw, 0, none⟩) css.length cw))] [il (.slice a11 D11.length c11) D11, cl (.slice a12 cs12.length c12) cs12, il (.slice a14 D14.length c14) D14, il (.slice a17 D11.length c17) D11, cl (.slice a18 cs12.length c18) cs12, il (.slice a19 D14.length c19) D14, il (.slice a20 D11.length c20) D11, cl (.slice a21 cs12.length c21) cs12, il (.slice a23 D14.length c23) D14, il (.slice a27 D27.length c27) D27, cl (.slice a28 cs28.length c28) cs28, il (.slice a35 D35.length c35) D35, il (.slice a36 D35.length c36) D35, cl (.slice a38 cs38.length c38) cs38] n (List.replicate css.length [1, -1, 2]) facts3 p q r wx)
  case first =>
    go_region_held (fun W' => Below w38.heap.size w38 W' ∧ W'.cell? ⟨w2.heap.size, 0, none⟩ = some (.int .i64 n) ∧ W'.cell? ⟨w2.heap.size, 1, none⟩ = some (.slice (some ⟨gw, 0, none⟩) css.length cw) ∧ W'.cell? ⟨w.heap.size, 4, none⟩ = some (.slice af facts.length cf)) (first | exact HSx.out _ HW1.out | exact HSx.out _ BZ.out) (first | (go_at_call 17; refine Calls.mono (HC.out _ HW1.out) ?_; rintro e wz ⟨az, cz, csz, ez, rfl, pz, rz, belz⟩; have BZ : Hid (Below w38.heap.size w38 wz) := Below.step HW1.out belz; have F9 : Hid (RWhy W0 w2.heap.size w31 [(w2.heap.size, .int .i64 n, (.slice (some ⟨gw, 0, none⟩) css.length cw))] [il (.slice a11 D11.length c11) D11, cl (.slice a12 cs12.length c12) cs12, il (.slice a14 D14.length c14) D14, il (.slice a17 D11.length c17) D11, cl (.slice a18 cs12.length c18) cs12, il (.slice a19 D14.length c19) D14, il (.slice a20 D11.length c20) D11, cl (.slice a21 cs12.length c21) cs12, il (.slice a23 D14.length c23) D14, il (.slice a27 D27.length c27) D27, cl (.slice a28 cs28.length c28) cs28, il (.slice a35 D35.length c35) D35, il (.slice a36 D35.length c36) D35, cl (.slice a38 cs38.length c38) cs38] n (List.replicate css.length [1, -1, 2]) facts3 (.slice az csz.length cz) (.int .i64 ez) (.int .i64 (whyE n (List.replicate css.length [1, -1, 2]) facts3)) wz) := ⟨az, cz, csz, ez, rfl, rfl, rfl, pz, (HK28.out.below HW1.out).call belz rz⟩; clear pz rz belz))
    go_wp2_with fail
    go_meet
    exact F9.out
  case rest =>
  obtain ⟨a39, c39, cs39, e39, rfl, rfl, rfl, p39, k39⟩ := hcut
  generalize wc = w39 at *
  obtain ⟨rfl, rfl⟩ := HP7.out.eq p39
  have HK29 : Hid (Ko W0 w2.heap.size w31 w39 [(w2.heap.size, .int .i64 n, (.slice (some ⟨gw, 0, none⟩) css.length cw))] [il (.slice a11 D11.length c11) D11, cl (.slice a12 cs12.length c12) cs12, il (.slice a14 D14.length c14) D14, il (.slice a17 D11.length c17) D11, cl (.slice a18 cs12.length c18) cs12, il (.slice a19 D14.length c19) D14, il (.slice a20 D11.length c20) D11, cl (.slice a21 cs12.length c21) cs12, il (.slice a23 D14.length c23) D14, il (.slice a27 D27.length c27) D27, cl (.slice a28 cs28.length c28) cs28, il (.slice a35 D35.length c35) D35, il (.slice a36 D35.length c36) D35, cl (.slice a38 cs38.length c38) cs38, cl (.slice a39 cs38.length c39) cs38]) := k39
  clear HSx HC HW1 k39 HK28 p39
  go_upto_region 32 with fail
  have HSx : Hid (∀ W', Below w39.heap.size w39 W' → Below w39.heap.size w39 W' ∧ W'.cell? ⟨w2.heap.size, 0, none⟩ = some (.int .i64 n) ∧ W'.cell? ⟨w2.heap.size, 1, none⟩ = some (.slice (some ⟨gw, 0, none⟩) css.length cw) ∧ W'.cell? ⟨w.heap.size, 4, none⟩ = some (.slice af facts.length cf)) := fun W' h => ⟨h, ((HK29.out.below h).k.bx _ (List.mem_cons_self ..)).1.c0, ((HK29.out.below h).k.bx _ (List.mem_cons_self ..)).1.c1, (HX.out _ (HK29.out.below h).k.bel).c4⟩
  have HC : Hid (∀ W, Below w39.heap.size w39 W → ForS Tryd.prog 13 n (.slice (some ⟨gw, 0, none⟩) css.length cw) (List.replicate css.length [1, -1, 2]) (.slice (some ⟨gq, 0, none⟩) facts.length cq) facts3 W) := fun W h => uForS (HRd.out _ (HK29.out.below h).k.ref).1 (HRd.out _ (HK29.out.below h).k.ref).2 HF3.out (HX.out _ (HK29.out.below h).k.bel).deb
  have HW1 : Hid (Below w39.heap.size w39 w39.drew) := (Below.refl _ _).drew
  go_cut [12, 42] from 319 to 328 (fun p q wx => RFor W0 w2.heap.size w31 [(w2.heap.size, .int .i64 n, (.slice (some ⟨gw, 0, none⟩) css.length cw))] [il (.slice a11 D11.length c11) D11, cl (.slice a12 cs12.length c12) cs12, il (.slice a14 D14.length c14) D14, il (.slice a17 D11.length c17) D11, cl (.slice a18 cs12.length c18) cs12, il (.slice a19 D14.length c19) D14, il (.slice a20 D11.length c20) D11, cl (.slice a21 cs12.length c21) cs12, il (.slice a23 D14.length c23) D14, il (.slice a27 D27.length c27) D27, cl (.slice a28 cs28.length c28) cs28, il (.slice a35 D35.length c35) D35, il (.slice a36 D35.length c36) D35, cl (.slice a38 cs38.length c38) cs38, cl (.slice a39 cs38.length c39) cs38] n (List.replicate css.length [1, -1, 2]) facts3 p q wx)
  case first =>
    go_region_held (fun W' => Below w39.heap.size w39 W' ∧ W'.cell? ⟨w2.heap.size, 0, none⟩ = some (.int .i64 n) ∧ W'.cell? ⟨w2.heap.size, 1, none⟩ = some (.slice (some ⟨gw, 0, none⟩) css.length cw) ∧ W'.cell? ⟨w.heap.size, 4, none⟩ = some (.slice af facts.length cf)) (first | exact HSx.out _ HW1.out | exact HSx.out _ BZ.out) (first | (go_at_call 13; refine Calls.mono (HC.out _ HW1.out) ?_; rintro e wz ⟨rfl, belz⟩; have BZ : Hid (Below w39.heap.size w39 wz) := Below.step HW1.out belz; have F9 : Hid (RFor W0 w2.heap.size w31 [(w2.heap.size, .int .i64 n, (.slice (some ⟨gw, 0, none⟩) css.length cw))] [il (.slice a11 D11.length c11) D11, cl (.slice a12 cs12.length c12) cs12, il (.slice a14 D14.length c14) D14, il (.slice a17 D11.length c17) D11, cl (.slice a18 cs12.length c18) cs12, il (.slice a19 D14.length c19) D14, il (.slice a20 D11.length c20) D11, cl (.slice a21 cs12.length c21) cs12, il (.slice a23 D14.length c23) D14, il (.slice a27 D27.length c27) D27, cl (.slice a28 cs28.length c28) cs28, il (.slice a35 D35.length c35) D35, il (.slice a36 D35.length c36) D35, cl (.slice a38 cs38.length c38) cs38, cl (.slice a39 cs38.length c39) cs38] n (List.replicate css.length [1, -1, 2]) facts3 (.bool (frcB n (List.replicate css.length [1, -1, 2]) facts3 1)) (.int .i64 (frcE n (List.replicate css.length [1, -1, 2]) facts3 1)) wz) := ⟨rfl, rfl, (HK29.out.below HW1.out).below belz⟩; clear belz))
    go_wp2_with fail
    go_meet
    exact F9.out
  case rest =>
  obtain ⟨rfl, rfl, k40⟩ := hcut
  generalize wc = w40 at *
  have HK30 : Hid (Ko W0 w2.heap.size w31 w40 [(w2.heap.size, .int .i64 n, (.slice (some ⟨gw, 0, none⟩) css.length cw))] [il (.slice a11 D11.length c11) D11, cl (.slice a12 cs12.length c12) cs12, il (.slice a14 D14.length c14) D14, il (.slice a17 D11.length c17) D11, cl (.slice a18 cs12.length c18) cs12, il (.slice a19 D14.length c19) D14, il (.slice a20 D11.length c20) D11, cl (.slice a21 cs12.length c21) cs12, il (.slice a23 D14.length c23) D14, il (.slice a27 D27.length c27) D27, cl (.slice a28 cs28.length c28) cs28, il (.slice a35 D35.length c35) D35, il (.slice a36 D35.length c36) D35, cl (.slice a38 cs38.length c38) cs38, cl (.slice a39 cs38.length c39) cs38]) := k40
  clear HSx HC HW1 k40 HK29
  go_upto_region 33 with fail
  have HSx : Hid (∀ W', Below w40.heap.size w40 W' → Below w40.heap.size w40 W' ∧ W'.cell? ⟨w2.heap.size, 0, none⟩ = some (.int .i64 n) ∧ W'.cell? ⟨w2.heap.size, 1, none⟩ = some (.slice (some ⟨gw, 0, none⟩) css.length cw) ∧ W'.cell? ⟨w.heap.size, 4, none⟩ = some (.slice af facts.length cf)) := fun W' h => ⟨h, ((HK30.out.below h).k.bx _ (List.mem_cons_self ..)).1.c0, ((HK30.out.below h).k.bx _ (List.mem_cons_self ..)).1.c1, (HX.out _ (HK30.out.below h).k.bel).c4⟩
  have HC : Hid (∀ W, Below w40.heap.size w40 W → ForS Tryd.prog 18 n (.slice (some ⟨gw, 0, none⟩) css.length cw) (List.replicate css.length [1, -1, 2]) (.slice (some ⟨gq, 0, none⟩) facts.length cq) facts3 W) := fun W h => rForS (HRd.out _ (HK30.out.below h).k.ref).1 (HRd.out _ (HK30.out.below h).k.ref).2 HF3.out
  have HW1 : Hid (Below w40.heap.size w40 w40.drew) := (Below.refl _ _).drew
  go_cut [30, 26] from 329 to 338 (fun p q wx => RFor W0 w2.heap.size w31 [(w2.heap.size, .int .i64 n, (.slice (some ⟨gw, 0, none⟩) css.length cw))] [il (.slice a11 D11.length c11) D11, cl (.slice a12 cs12.length c12) cs12, il (.slice a14 D14.length c14) D14, il (.slice a17 D11.length c17) D11, cl (.slice a18 cs12.length c18) cs12, il (.slice a19 D14.length c19) D14, il (.slice a20 D11.length c20) D11, cl (.slice a21 cs12.length c21) cs12, il (.slice a23 D14.length c23) D14, il (.slice a27 D27.length c27) D27, cl (.slice a28 cs28.length c28) cs28, il (.slice a35 D35.length c35) D35, il (.slice a36 D35.length c36) D35, cl (.slice a38 cs38.length c38) cs38, cl (.slice a39 cs38.length c39) cs38] n (List.replicate css.length [1, -1, 2]) facts3 p q wx)
  case first =>
    go_region_held (fun W' => Below w40.heap.size w40 W' ∧ W'.cell? ⟨w2.heap.size, 0, none⟩ = some (.int .i64 n) ∧ W'.cell? ⟨w2.heap.size, 1, none⟩ = some (.slice (some ⟨gw, 0, none⟩) css.length cw) ∧ W'.cell? ⟨w.heap.size, 4, none⟩ = some (.slice af facts.length cf)) (first | exact HSx.out _ HW1.out | exact HSx.out _ BZ.out) (first | (go_at_call 18; refine Calls.mono (HC.out _ HW1.out) ?_; rintro e wz ⟨rfl, belz⟩; have BZ : Hid (Below w40.heap.size w40 wz) := Below.step HW1.out belz; have F9 : Hid (RFor W0 w2.heap.size w31 [(w2.heap.size, .int .i64 n, (.slice (some ⟨gw, 0, none⟩) css.length cw))] [il (.slice a11 D11.length c11) D11, cl (.slice a12 cs12.length c12) cs12, il (.slice a14 D14.length c14) D14, il (.slice a17 D11.length c17) D11, cl (.slice a18 cs12.length c18) cs12, il (.slice a19 D14.length c19) D14, il (.slice a20 D11.length c20) D11, cl (.slice a21 cs12.length c21) cs12, il (.slice a23 D14.length c23) D14, il (.slice a27 D27.length c27) D27, cl (.slice a28 cs28.length c28) cs28, il (.slice a35 D35.length c35) D35, il (.slice a36 D35.length c36) D35, cl (.slice a38 cs38.length c38) cs38, cl (.slice a39 cs38.length c39) cs38] n (List.replicate css.length [1, -1, 2]) facts3 (.bool (frcB n (List.replicate css.length [1, -1, 2]) facts3 1)) (.int .i64 (frcE n (List.replicate css.length [1, -1, 2]) facts3 1)) wz) := ⟨rfl, rfl, (HK30.out.below HW1.out).below belz⟩; clear belz))
    go_wp2_with fail
    go_meet
    exact F9.out
  case rest =>
  obtain ⟨rfl, rfl, k41⟩ := hcut
  generalize wc = w41 at *
  have HK31 : Hid (Ko W0 w2.heap.size w31 w41 [(w2.heap.size, .int .i64 n, (.slice (some ⟨gw, 0, none⟩) css.length cw))] [il (.slice a11 D11.length c11) D11, cl (.slice a12 cs12.length c12) cs12, il (.slice a14 D14.length c14) D14, il (.slice a17 D11.length c17) D11, cl (.slice a18 cs12.length c18) cs12, il (.slice a19 D14.length c19) D14, il (.slice a20 D11.length c20) D11, cl (.slice a21 cs12.length c21) cs12, il (.slice a23 D14.length c23) D14, il (.slice a27 D27.length c27) D27, cl (.slice a28 cs28.length c28) cs28, il (.slice a35 D35.length c35) D35, il (.slice a36 D35.length c36) D35, cl (.slice a38 cs38.length c38) cs38, cl (.slice a39 cs38.length c39) cs38]) := k41
  clear HSx HC HW1 k41 HK30
  have d0 : w41.cell? ⟨w2.heap.size, 0, none⟩ = some (.int .i64 n) := (HK31.out.k.bx _ (List.mem_cons_self ..)).1.c0
  have d1 : w41.cell? ⟨w2.heap.size, 1, none⟩ = some (.slice (some ⟨gw, 0, none⟩) css.length cw) := (HK31.out.k.bx _ (List.mem_cons_self ..)).1.c1
  go_wp2_with fail
  refine Calls.mono (uPrbS (HRd.out _ HK31.out.k.ref).1 HF3.out (HX.out _ HK31.out.k.bel).deb) ?_
  rintro e w42 ⟨a42, c42, D42, rfl, p42, r42, bel42⟩
  have h42 := HK31.out.call bel42 r42
  have HP8 : Hid (Pp n (List.replicate css.length [1, -1, 2]) D42) := p42
  have HK32 : Hid (Ko W0 w2.heap.size w31 w42 [(w2.heap.size, .int .i64 n, (.slice (some ⟨gw, 0, none⟩) css.length cw))] [il (.slice a11 D11.length c11) D11, cl (.slice a12 cs12.length c12) cs12, il (.slice a14 D14.length c14) D14, il (.slice a17 D11.length c17) D11, cl (.slice a18 cs12.length c18) cs12, il (.slice a19 D14.length c19) D14, il (.slice a20 D11.length c20) D11, cl (.slice a21 cs12.length c21) cs12, il (.slice a23 D14.length c23) D14, il (.slice a27 D27.length c27) D27, cl (.slice a28 cs28.length c28) cs28, il (.slice a35 D35.length c35) D35, il (.slice a36 D35.length c36) D35, cl (.slice a38 cs38.length c38) cs38, cl (.slice a39 cs38.length c39) cs38, il (.slice a42 D42.length c42) D42]) := h42
  clear h42 p42 r42 bel42 HK31
  clear d0 d1
  have d0 : w42.cell? ⟨w2.heap.size, 0, none⟩ = some (.int .i64 n) := (HK32.out.k.bx _ (List.mem_cons_self ..)).1.c0
  have d1 : w42.cell? ⟨w2.heap.size, 1, none⟩ = some (.slice (some ⟨gw, 0, none⟩) css.length cw) := (HK32.out.k.bx _ (List.mem_cons_self ..)).1.c1
  go_wp2_with fail
  refine Calls.mono (rPrbS (HRd.out _ HK32.out.k.ref).1 HF3.out) ?_
  rintro e w43 ⟨a43, c43, D43, rfl, p43, r43, bel43⟩
  have h43 := HK32.out.call bel43 r43
  obtain rfl := HP8.out.eq p43
  have HK33 : Hid (Ko W0 w2.heap.size w31 w43 [(w2.heap.size, .int .i64 n, (.slice (some ⟨gw, 0, none⟩) css.length cw))] [il (.slice a11 D11.length c11) D11, cl (.slice a12 cs12.length c12) cs12, il (.slice a14 D14.length c14) D14, il (.slice a17 D11.length c17) D11, cl (.slice a18 cs12.length c18) cs12, il (.slice a19 D14.length c19) D14, il (.slice a20 D11.length c20) D11, cl (.slice a21 cs12.length c21) cs12, il (.slice a23 D14.length c23) D14, il (.slice a27 D27.length c27) D27, cl (.slice a28 cs28.length c28) cs28, il (.slice a35 D35.length c35) D35, il (.slice a36 D35.length c36) D35, cl (.slice a38 cs38.length c38) cs38, cl (.slice a39 cs38.length c39) cs38, il (.slice a42 D42.length c42) D42, il (.slice a43 D42.length c43) D42]) := h43
  clear h43 p43 r43 bel43 HK32
  clear d0 d1
  --D9
  go_wp2_with fail
  refine Calls.mono (sameC_any _ _ cs38 w43 (HK33.out.caus (show cl (.slice a38 cs38.length c38) cs38 ∈ _ by simp)) (HK33.out.caus (show cl (.slice a39 cs38.length c39) cs38 ∈ _ by simp)) HP7.out.len) ?_
  rintro e w44 ⟨rfl, bel44⟩
  have HK34 : Hid (Ko W0 w2.heap.size w31 w44 [(w2.heap.size, .int .i64 n, (.slice (some ⟨gw, 0, none⟩) css.length cw))] [il (.slice a11 D11.length c11) D11, cl (.slice a12 cs12.length c12) cs12, il (.slice a14 D14.length c14) D14, il (.slice a17 D11.length c17) D11, cl (.slice a18 cs12.length c18) cs12, il (.slice a19 D14.length c19) D14, il (.slice a20 D11.length c20) D11, cl (.slice a21 cs12.length c21) cs12, il (.slice a23 D14.length c23) D14, il (.slice a27 D27.length c27) D27, cl (.slice a28 cs28.length c28) cs28, il (.slice a35 D35.length c35) D35, il (.slice a36 D35.length c36) D35, cl (.slice a38 cs38.length c38) cs38, cl (.slice a39 cs38.length c39) cs38, il (.slice a42 D42.length c42) D42, il (.slice a43 D42.length c43) D42]) := HK33.out.below bel44
  clear bel44 HK33
  go_wp2_with fail
  refine Calls.mono (sameI ((HK34.out.ints (show il (.slice a42 D42.length c42) D42 ∈ _ by simp)).rd HP8.out.len) ((HK34.out.ints (show il (.slice a43 D42.length c43) D42 ∈ _ by simp)).rd HP8.out.len)) ?_
  rintro e w45 ⟨rfl, bel45⟩
  have HK35 : Hid (Ko W0 w2.heap.size w31 w45 [(w2.heap.size, .int .i64 n, (.slice (some ⟨gw, 0, none⟩) css.length cw))] [il (.slice a11 D11.length c11) D11, cl (.slice a12 cs12.length c12) cs12, il (.slice a14 D14.length c14) D14, il (.slice a17 D11.length c17) D11, cl (.slice a18 cs12.length c18) cs12, il (.slice a19 D14.length c19) D14, il (.slice a20 D11.length c20) D11, cl (.slice a21 cs12.length c21) cs12, il (.slice a23 D14.length c23) D14, il (.slice a27 D27.length c27) D27, cl (.slice a28 cs28.length c28) cs28, il (.slice a35 D35.length c35) D35, il (.slice a36 D35.length c36) D35, cl (.slice a38 cs38.length c38) cs38, cl (.slice a39 cs38.length c39) cs38, il (.slice a42 D42.length c42) D42, il (.slice a43 D42.length c43) D42]) := HK34.out.below bel45
  clear bel45 HK34
  --D10
  have HI : Hid (∀ j, j < 6 → ∃ v D, rwAt [il (.slice a11 D11.length c11) D11, cl (.slice a12 cs12.length c12) cs12, il (.slice a14 D14.length c14) D14, il (.slice a17 D11.length c17) D11, cl (.slice a18 cs12.length c18) cs12, il (.slice a19 D14.length c19) D14, il (.slice a20 D11.length c20) D11, cl (.slice a21 cs12.length c21) cs12, il (.slice a23 D14.length c23) D14, il (.slice a27 D27.length c27) D27, cl (.slice a28 cs28.length c28) cs28, il (.slice a35 D35.length c35) D35, il (.slice a36 D35.length c36) D35, cl (.slice a38 cs38.length c38) cs38, cl (.slice a39 cs38.length c39) cs38, il (.slice a42 D42.length c42) D42, il (.slice a43 D42.length c43) D42] [0, 3, 9, 12, 2, 5] j = il v D ∧ D.length * 8 ≤ 140737488353280) := by
    intro j hj
    rcases (show j = 0 ∨ j = 1 ∨ j = 2 ∨ j = 3 ∨ j = 4 ∨ j = 5 by omega) with rfl | rfl | rfl | rfl | rfl | rfl
    · exact ⟨_, _, rfl, by have := HP1.out.len; omega⟩
    · exact ⟨_, _, rfl, by have := HP1.out.len; omega⟩
    · exact ⟨_, _, rfl, by have := HP4.out.len; omega⟩
    · exact ⟨_, _, rfl, by have := HP6.out.len; omega⟩
    · exact ⟨_, _, rfl, by have := HP3.out.len; omega⟩
    · exact ⟨_, _, rfl, by have := HP3.out.len; omega⟩
  have HJ : Hid (∀ j, j < 3 → ∃ v cs, rwAt [il (.slice a11 D11.length c11) D11, cl (.slice a12 cs12.length c12) cs12, il (.slice a14 D14.length c14) D14, il (.slice a17 D11.length c17) D11, cl (.slice a18 cs12.length c18) cs12, il (.slice a19 D14.length c19) D14, il (.slice a20 D11.length c20) D11, cl (.slice a21 cs12.length c21) cs12, il (.slice a23 D14.length c23) D14, il (.slice a27 D27.length c27) D27, cl (.slice a28 cs28.length c28) cs28, il (.slice a35 D35.length c35) D35, il (.slice a36 D35.length c36) D35, cl (.slice a38 cs38.length c38) cs38, cl (.slice a39 cs38.length c39) cs38, il (.slice a42 D42.length c42) D42, il (.slice a43 D42.length c43) D42] [1, 4, 10] j = cl v cs ∧ cs.length ≤ 2097152) := by
    intro j hj
    rcases (show j = 0 ∨ j = 1 ∨ j = 2 by omega) with rfl | rfl | rfl
    · exact ⟨_, _, rfl, HP2.out.len⟩
    · exact ⟨_, _, rfl, HP2.out.len⟩
    · exact ⟨_, _, rfl, HP5.out.len⟩
  have HAp := (show Hid _ from HK35.out.apartI [0, 3, 9, 12, 2, 5] [1, 4, 10] (by decide) (show ∀ i ∈ ([0, 3, 9, 12, 2, 5] ++ [1, 4, 10] : List Nat), i < 17 by decide) (by decide) HI.out)
  go_wp2_with fail
  refine Calls.mono HAp.out ?_
  rintro e w46 ⟨rfl, bel46, sz46, ho46⟩
  have HAc := (show Hid _ from apartC HK35.out (Nat.le_trans HK35.out.k.sz sz46) [1, 4, 10] (by decide) (show ∀ i ∈ ([1, 4, 10] : List Nat), i < 17 by decide) (by decide) HJ.out ho46 bel46)
  clear bel46 sz46 ho46 HAp HI HJ HK35
  go_wp2_with fail
  refine Calls.mono HAc.out ?_
  rintro e wf ⟨rfl, belf⟩
  have HE : Hid (Below w.heap.size w wf) := Below.step HB0.out belf
  clear belf HAc
  go_wp2
  go_ret
  exact ⟨rfl, HE.out⟩
end Go.Proofs.YtijhabhbeambeaaDoor.unitKeeps
