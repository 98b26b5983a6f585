/-
  CnfKeepsUnder, walked.
  KEEP: set on app at below new trans refl start ap kept rd rds mono lt add none own nil put len pos setF setV putL putR other neV same_any row
-/
import Derived.Test.YtbnnoajpmmbpbaaRUnder
import Derived.Test.YtbnnoajpmmbpbaaSameF
import Derived.Test.YtbnnoajpmmbpbaaSmall
import Derived.Test.YtbnnoajpmmbpbaaKpL
set_option linter.unusedSimpArgs false
set_option linter.unusedVariables false
namespace Go.Proofs.Ytbnnoajpmmbpbaa.cnfKeepsUnder
open Go Go.RowKit Go.Shelf

theorem un24 {css : List (List Int)} {m : Nat} (h : css.length ≤ m) (n : Int) (part : List Int) : (unF n css part).2.1.length ≤ m := by
  have := List.length_filterMap_le (rems part) css
  unfold unF; split
  · simp
  · split
    · simp
    · simp only; omega
theorem un8 {css : List (List Int)} (h : ∀ z ∈ css, z.length * 8 ≤ 140737488351232) (n : Int) (part : List Int) : ∀ z ∈ (unF n css part).2.1, z.length * 8 ≤ 140737488351232 := by
  unfold unF; split
  · simp
  · split
    · simp
    · intro z hz
      obtain ⟨c, hc, e⟩ := List.mem_filterMap.1 hz
      unfold rems at e
      split at e
      · cases e
      · cases e
        have := h c hc
        have := remL_len part c
        omega
theorem un_small : unF 2 smallF [2] = (2, (unF 2 smallF [2]).2.1, 0) := by decide
theorem ng8 {css : List (List Int)} (h : ∀ z ∈ css, z.length * 8 ≤ 140737488351232) : ∀ z ∈ css.map (·.map ngv), z.length * 8 ≤ 140737488351232 := fun z hz => by
  obtain ⟨y, hy, rfl⟩ := List.mem_map.1 hz
  rw [List.length_map]; exact h y hy
/-- what a call of Under answers, on either side -/
def Says (P : Program) (f : FuncId) (s vp : Value) (n : Int) (W : World) (u1 : Int) (ucs : List (List Int)) (ue : Int) : Prop :=
  Calls P f #[.agg #[.int .i64 n, s], vp] W fun e w' => ∃ a c, e = .returned (.tuple #[.agg #[.int .i64 u1, .slice a ucs.length c], .int .i64 ue]) ∧ OwnF W.heap.size w' (.slice a ucs.length c) ucs ∧ Below W.heap.size W w'
theorem says_r {n : Int} {s vp : Value} {css : List (List Int)} {part : List Int} {W : World} {u1 ue : Int} {ucs : List (List Int)} (hu : unF n css part = (u1, ucs, ue)) (hr : Rds W s css) (hp : Rd W vp part) : Says Try.prog 17 s vp n W u1 ucs ue := by
  refine (rUnder_any n s vp css part W hr hp).mono ?_
  rw [hu]
  rintro e w' ⟨s', rfl, ho, hb⟩
  obtain ⟨a, c, rfl⟩ := ownf_form ho
  exact ⟨a, c, rfl, ho, hb⟩
theorem says_p {n : Int} {s vp : Value} {css : List (List Int)} {part : List Int} {W : World} {u1 ue : Int} {ucs : List (List Int)} (hu : unF n css part = (u1, ucs, ue)) (hr : Rds W s css) (hp : Rd W vp part) : Says Try.prog 15 s vp n W u1 ucs ue := by
  refine (under_any n s vp css part W hr hp).mono ?_
  rw [hu]
  rintro e w' ⟨s', rfl, ho, hb⟩
  obtain ⟨a, c, rfl⟩ := ownf_form ho
  exact ⟨a, c, rfl, ho, hb⟩
/-- what is lent, as it was handed in -/
structure Ra (B B4 S : Nat) (vi vw vr vq : Value) (css : List (List Int)) (L M : List Cls) (part : List Int) (W : World) : Prop where
  k : Lk B W vw vr css L M
  q : Own B4 W vq (part ++ m64)
  x : Bx3 W S 30 vi vw vr
theorem Ra.below {B B4 S : Nat} {vi vw vr vq : Value} {css : List (List Int)} {L M : List Cls} {part : List Int} {W W' : World} (h : Ra B B4 S vi vw vr vq css L M part W) (hb : Below W.heap.size W W') : Ra B B4 S vi vw vr vq css L M part W' := ⟨h.k.below hb, h.q.below hb, h.x.below hb⟩
/-- what is lent, turned -/
structure Rb (B B4 S : Nat) (vi vw vr vq : Value) (css : List (List Int)) (L : List Cls) (ws : List Value) (part : List Int) (W : World) : Prop where
  l : Lr B W vw vr L ws []
  i : Rds W vi css
  q : Own B4 W vq (part ++ m64)
  x : Bx3 W S 30 vi vw vr
theorem Rb.below {B B4 S : Nat} {vi vw vr vq : Value} {css : List (List Int)} {L : List Cls} {ws : List Value} {part : List Int} {W W' : World} (h : Rb B B4 S vi vw vr vq css L ws part W) (hb : Below W.heap.size W W') : Rb B B4 S vi vw vr vq css L ws part W' := ⟨h.l.below hb, h.i.below hb, h.q.below hb, h.x.below hb⟩

set_option maxRecDepth 100000 in
set_option maxHeartbeats 12800000 in
theorem walk (n : Int) (s : Value) (css : List (List Int)) (vp : Value) (part : List Int) (w : World) (hr : Rds w s css) (hp : Rd w vp part) (hbn : css.length ≤ 1048576) :
    Calls Try.prog 4 #[.agg #[.int .i64 n, s], vp] w fun e w' => e = .returned (.bool true) ∧ Below w.heap.size w w' := by
  have H8 : Hid ((∀ z ∈ css, z.length * 8 ≤ 140737488351232) ∧ css.length ≤ 1048576 ∧ part.length * 8 ≤ 140737488351232) := ⟨rds_each hr, hbn, hp.len⟩
  have HX : Hid (Bx w n s css (w.alloc (.cells #[.int .i64 n, s] 24))) := Bx.new hr _
  have HP : Hid (Rd (w.alloc (.cells #[.int .i64 n, s] 24)) vp part) := hp.below (below_box _ _)
  obtain ⟨ap, cp, rfl, -, -, -⟩ := hp.form
  obtain ⟨u1, ucs, ue, hU⟩ : ∃ u1 ucs ue, unF n css part = (u1, ucs, ue) := ⟨_, _, _, rfl⟩
  obtain ⟨v1, vcs, ve, hV⟩ : ∃ u1 ucs ue, unF n (css.map (·.map ngv)) part = (u1, ucs, ue) := ⟨_, _, _, rfl⟩
  have HU : Hid (unF n css part = (u1, ucs, ue) ∧ ucs.length ≤ 1048576 ∧ ∀ z ∈ ucs, z.length * 8 ≤ 140737488351232) := ⟨hU, by have := un24 hbn n part; rw [hU] at this; exact this, by have := un8 (rds_each hr) n part; rw [hU] at this; exact this⟩
  have HV : Hid (unF n (css.map (·.map ngv)) part = (v1, vcs, ve) ∧ vcs.length ≤ 1048576 ∧ ∀ z ∈ vcs, z.length * 8 ≤ 140737488351232) := ⟨hV, by have := un24 (css := css.map (·.map ngv)) (by rw [List.length_map]; exact hbn) n part; rw [hV] at this; exact this, by have := un8 (ng8 (rds_each hr)) n part; rw [hV] at this; exact this⟩
  clear hr hp hbn hU hV
  go_enter Try.func4, Try.ntmps4
  go_wp2_with fail
  generalize w.alloc (.cells #[.int .i64 n, s] 24) = W0 at *
  refine (small_any W0).mono ?_
  rintro e w1 ⟨s1, rfl, rs1, bel1⟩
  have HX1 : Hid (Bx w n s css w1) := HX.out.on bel1
  have HP1 : Hid (Rd w1 (.slice ap part.length cp) part) := HP.out.below bel1
  have HS1 : Hid (Rds w1 s1 smallF) := rs1
  clear HX bel1 HP rs1
  go_wp2_with fail
  refine (under_any 2 s1 _ smallF [2] _ (HS1.out.below (below_box _ _)) ((ownOne w1 2).rd (by simp))).mono ?_
  rw [un_small]
  rintro e w2 ⟨s2, rfl, own2, bel2⟩
  obtain ⟨a2, c2, hs2⟩ := ownf_form own2
  subst hs2
  have HX2 : Hid (Bx w n s css w2) := (HX1.out.on (below_box _ _)).on bel2
  have HP2 : Hid (Rd w2 (.slice ap part.length cp) part) := (HP1.out.below (below_box _ _)).below bel2
  clear HX1 bel2 HS1 HP1 own2
  generalize (unF 2 smallF [2]).2.1.length = q2 at *
  have HX3 : Hid (Bx w n s css (w2.alloc (.cells #[.int .i64 2, .slice a2 q2 c2] 24))) := HX2.out.on (below_box _ _)
  have HP3 : Hid (Rd (w2.alloc (.cells #[.int .i64 2, .slice a2 q2 c2] 24)) (.slice ap part.length cp) part) := HP2.out.below (below_box _ _)
  have c1 := HX3.out.c1
  clear HX2 HP2
  go_wp2_with fail
  generalize w2.alloc (.cells #[.int .i64 2, .slice a2 q2 c2] 24) = w3 at *
  refine (lentRows_any s css w3 HX3.out.rd (by have := H8.out.2.1; omega)).mono ?_
  rintro e w4 ⟨vi, vw, vr, L, M, rfl, hq⟩
  obtain ⟨gw, cw, evw, evi, hcw, hcm⟩ := hq.vals
  subst evw; subst evi
  have HQ : Hid (Lq w3 w4 (.slice (some ⟨gw, 0, none⟩) css.length cw) (.slice (some ⟨gw, 0, none⟩) (css.length + 64) cw) vr css L M) := hq
  obtain ⟨ar, cr, er⟩ := row_form hq.l.r.row
  subst er
  have HCw : Hid (css.length + 64 ≤ cw ∧ cw ≤ maxLen) := ⟨hcw, hcm⟩
  clear hq c1 hcw hcm
  go_wp2_with fail
  refine (lent_any (.slice ap part.length cp) part w4 (HP3.out.below HQ.out.b)).mono ?_
  rintro e w5 ⟨vq, rfl, own5, bel5⟩
  obtain ⟨gq, cq, eq, hcq, -, -⟩ := row_some own5 (by rw [List.length_append, m64_len]; omega)
  rw [List.length_append, m64_len] at eq hcq
  subst eq
  have HA : Hid (Ra w3.heap.size w4.heap.size w5.heap.size (.slice (some ⟨gw, 0, none⟩) css.length cw) (.slice (some ⟨gw, 0, none⟩) (css.length + 64) cw) (.slice ar L.length cr) (.slice (some ⟨gq, 0, none⟩) (part.length + 64) cq) css L M part (w5.alloc (.cells #[(.slice (some ⟨gw, 0, none⟩) css.length cw), (.slice (some ⟨gw, 0, none⟩) (css.length + 64) cw), (.slice ar L.length cr)] 30))) := by
    have hb5 := below_box w5 (.cells #[(.slice (some ⟨gw, 0, none⟩) css.length cw), (.slice (some ⟨gw, 0, none⟩) (css.length + 64) cw), (.slice ar L.length cr)] 30)
    exact ⟨(HQ.out.k.below bel5).below hb5, own5.below hb5, World.alloc_heap_new w5 _⟩
  have HK0 : Hid (Kx w3 w5.heap.size (w5.alloc (.cells #[(.slice (some ⟨gw, 0, none⟩) css.length cw), (.slice (some ⟨gw, 0, none⟩) (css.length + 64) cw), (.slice ar L.length cr)] 30)) (w5.alloc (.cells #[(.slice (some ⟨gw, 0, none⟩) css.length cw), (.slice (some ⟨gw, 0, none⟩) (css.length + 64) cw), (.slice ar L.length cr)] 30)) [] []) := by
    have hb5 := below_box w5 (.cells #[(.slice (some ⟨gw, 0, none⟩) css.length cw), (.slice (some ⟨gw, 0, none⟩) (css.length + 64) cw), (.slice ar L.length cr)] 30)
    exact Kx.start (Below.step (Below.step HQ.out.b bel5) hb5) (Nat.le_trans HQ.out.b.size bel5.size) hb5.size
  have HS5 : Hid (w3.heap.size ≤ w4.heap.size ∧ w4.heap.size ≤ w5.heap.size) := ⟨HQ.out.b.size, bel5.size⟩
  have HLo : Hid ((∀ k, Lown (.slice (some ⟨gw, 0, none⟩) (css.length + 64) cw) (.slice ar L.length cr) L k → w3.heap.size ≤ k ∧ k < w4.heap.size) ∧ L.length = css.length) := ⟨lown_le HQ.out.l, HQ.out.k.len.1⟩
  have HQo : Hid (∀ k, some k = (Value.slice (some ⟨gq, 0, none⟩) (part.length + 64) cq).ownBlock → w4.heap.size ≤ k ∧ k < w5.heap.size) := fun k e => own5.lt k e.symm
  clear own5 bel5 HQ
  have c0 := (HX3.out.on HK0.out.bel).c0
  have x0 : (w5.alloc (.cells #[(.slice (some ⟨gw, 0, none⟩) css.length cw), (.slice (some ⟨gw, 0, none⟩) (css.length + 64) cw), (.slice ar L.length cr)] 30)).cell? ⟨w5.heap.size, 0, none⟩ = some (.slice (some ⟨gw, 0, none⟩) css.length cw) := HA.out.x.c0
  have HK1 : Hid (Kx w3 w5.heap.size (w5.alloc (.cells #[(.slice (some ⟨gw, 0, none⟩) css.length cw), (.slice (some ⟨gw, 0, none⟩) (css.length + 64) cw), (.slice ar L.length cr)] 30)) ((w5.alloc (.cells #[(.slice (some ⟨gw, 0, none⟩) css.length cw), (.slice (some ⟨gw, 0, none⟩) (css.length + 64) cw), (.slice ar L.length cr)] 30)).alloc (.cells #[.int .i64 n, (.slice (some ⟨gw, 0, none⟩) css.length cw)] 24)) [(w5.heap.size + 1, .int .i64 n, (.slice (some ⟨gw, 0, none⟩) css.length cw))] []) := by have := HK0.out.box (.int .i64 n) (.slice (some ⟨gw, 0, none⟩) css.length cw); rw [World.size_alloc] at this; exact this
  have d0 := (HX3.out.on HK1.out.bel).c0
  have d1 := (HX3.out.on HK1.out.bel).c1
  go_wp2_with fail
  generalize (w5.alloc (.cells #[(.slice (some ⟨gw, 0, none⟩) css.length cw), (.slice (some ⟨gw, 0, none⟩) (css.length + 64) cw), (.slice ar L.length cr)] 30)).alloc (.cells #[.int .i64 n, (.slice (some ⟨gw, 0, none⟩) css.length cw)] 24) = w6 at *
  generalize w5.alloc (.cells #[(.slice (some ⟨gw, 0, none⟩) css.length cw), (.slice (some ⟨gw, 0, none⟩) (css.length + 64) cw), (.slice ar L.length cr)] 30) = wA at *
  refine Calls.mono (says_r HU.out.1 (HX3.out.on HK1.out.bel).rd (HP3.out.below HK1.out.bel)) ?_
  rintro e w7 ⟨a7, c7, rfl, own7, bel7⟩
  obtain ⟨L7, e7, k7⟩ := HK1.out.ans bel7 own7 u1
  have HE7 : Hid (L7.map Prod.snd = ucs) := e7
  have HK2 : Hid (Kx w3 w5.heap.size wA (w7.alloc (.cells #[.int .i64 u1, .slice a7 ucs.length c7] 24)) [(w5.heap.size + 1, .int .i64 n, (.slice (some ⟨gw, 0, none⟩) css.length cw)), (w7.heap.size, .int .i64 u1, .slice a7 ucs.length c7)] [(u1, .slice a7 ucs.length c7, L7)]) := k7
  clear own7 bel7 k7 e7 HK0 HK1 c0 x0 d0 d1
  have d0 := (HX3.out.on HK2.out.bel).c0
  have d1 := (HX3.out.on HK2.out.bel).c1
  go_wp2_with fail
  generalize hw8 : (w7.alloc (.cells #[.int .i64 u1, .slice a7 ucs.length c7] 24)) = w8 at *
  refine Calls.mono (turned_any n s css w8 (HX3.out.on HK2.out.bel).rd (by have := H8.out.2.1; omega)) ?_
  rintro e w9 ⟨s9, rfl, own9, bel9⟩
  obtain ⟨a9, c9, hs9⟩ := ownf_form own9
  subst hs9
  have HK3 : Hid (Kx w3 w5.heap.size wA w9 [(w5.heap.size + 1, .int .i64 n, (.slice (some ⟨gw, 0, none⟩) css.length cw)), (w7.heap.size, .int .i64 u1, .slice a7 ucs.length c7)] [(u1, .slice a7 ucs.length c7, L7)]) := HK2.out.below bel9
  have h9 := own9.rds (by rw [List.length_map]; have := H8.out.2.1; omega) (ng8 H8.out.1)
  rw [List.length_map] at h9
  have HS9 : Hid (Rds w9 (.slice a9 css.length c9) (css.map (·.map ngv))) := h9
  clear own9 bel9 HK2 d0 d1 hw8 h9
  go_wp2_with fail
  refine Calls.mono (says_r HV.out.1 HS9.out (HP3.out.below HK3.out.bel)) ?_
  rintro e w10 ⟨a10, c10, rfl, own10, bel10⟩
  obtain ⟨L10, e10, k10⟩ := HK3.out.ans bel10 own10 v1
  have HE10 : Hid (L10.map Prod.snd = vcs) := e10
  have HK4 : Hid (Kx w3 w5.heap.size wA (w10.alloc (.cells #[.int .i64 v1, .slice a10 vcs.length c10] 24)) [(w5.heap.size + 1, .int .i64 n, (.slice (some ⟨gw, 0, none⟩) css.length cw)), (w7.heap.size, .int .i64 u1, .slice a7 ucs.length c7), (w10.heap.size, .int .i64 v1, .slice a10 vcs.length c10)] [(u1, .slice a7 ucs.length c7, L7), (v1, .slice a10 vcs.length c10, L10)]) := k10
  clear own10 bel10 k10 e10 HK3 HS9
  go_upto_region 8 with fail
  generalize (w10.alloc (.cells #[.int .i64 v1, .slice a10 vcs.length c10] 24)) = w11 at *
  have HRd : Hid (∀ W, Below wA.heap.size wA W → Rds W (.slice (some ⟨gw, 0, none⟩) css.length cw) css ∧ Rd W (.slice (some ⟨gq, 0, none⟩) part.length cq) part) := fun W hb => by
    have h := HA.out.below hb
    exact ⟨h.k.tn.rds (by have := HCw.out.1; omega) HCw.out.2 (by simp) (by have := H8.out.2.1; omega) H8.out.1, own_hd h.q (by omega) H8.out.2.2⟩
  have b0 := (HK4.out.bx _ (List.mem_cons_self ..)).1.c0
  have b1 := (HK4.out.bx _ (List.mem_cons_self ..)).1.c1
  have HSx : Hid (∀ W', Below w11.heap.size w11 W' → Below w11.heap.size w11 W' ∧ W'.cell? ⟨w5.heap.size + 1, 0, none⟩ = some (.int .i64 n) ∧ W'.cell? ⟨w5.heap.size + 1, 1, none⟩ = some (.slice (some ⟨gw, 0, none⟩) css.length cw)) := fun W' h => ⟨h, (h.cell (p := ⟨w5.heap.size + 1, 0, none⟩) (World.block_lt_of_cell? w11 _ b0)).trans b0, (h.cell (p := ⟨w5.heap.size + 1, 1, none⟩) (World.block_lt_of_cell? w11 _ b1)).trans b1⟩
  have HCa : Hid (∀ W, Below w11.heap.size w11 W → Says Try.prog 15 (.slice (some ⟨gw, 0, none⟩) css.length cw) (.slice (some ⟨gq, 0, none⟩) part.length cq) n W u1 ucs ue) := fun W hb => says_p HU.out.1 (HRd.out W (HK4.out.below hb).ref).1 (HRd.out W (HK4.out.below hb).ref).2
  have hpc : part.length ≤ cq := by omega
  have HW1 : Hid (Below w11.heap.size w11 w11.drew) := (Below.refl _ _).drew
  have HW2 : Hid (Below w11.heap.size w11 (w11.alloc (.cells #[.int .i64 0, .slice none 0 0] 24)).drew) := (below_box _ _).drew
  clear b0 b1
  go_cut [14, 15] from 53 to 61 (fun p e wx => An w3 w5.heap.size wA [(w5.heap.size + 1, .int .i64 n, (.slice (some ⟨gw, 0, none⟩) css.length cw)), (w7.heap.size, .int .i64 u1, .slice a7 ucs.length c7), (w10.heap.size, .int .i64 v1, .slice a10 vcs.length c10)] [(u1, .slice a7 ucs.length c7, L7), (v1, .slice a10 vcs.length c10, L10)] u1 ucs p wx)
  case first =>
    go_region_held (fun W' => Below w11.heap.size w11 W' ∧ W'.cell? ⟨w5.heap.size + 1, 0, none⟩ = some (.int .i64 n) ∧ W'.cell? ⟨w5.heap.size + 1, 1, none⟩ = some (.slice (some ⟨gw, 0, none⟩) css.length cw)) (first | exact HSx.out _ HW1.out | exact HSx.out _ HW2.out | exact HSx.out _ B9.out | exact HSx.out _ (Below.step B9.out (below_box _ _)) | exact HSx.out _ (below_set B9.out (Nat.le_refl _) _ _) | exact HSx.out _ (below_set (below_set B9.out (Nat.le_refl _) _ _) (Nat.le_refl _) _ _) | exact HSx.out _ (below_set (below_set (Below.step B9.out (below_box _ _)) B9.out.size _ _) B9.out.size _ _)) (first
      | (go_at_call 15; refine Calls.mono (HCa.out _ HW1.out) ?_; rintro e wz ⟨az, cz, rfl, ownz, belz⟩; have B9 : Hid (Below w11.heap.size w11 wz) := Below.step HW1.out belz; have F9 : Hid (∃ L, L.map Prod.snd = ucs ∧ Kx w3 w5.heap.size wA (wz.alloc (.cells #[.int .i64 u1, .slice az ucs.length cz] 24)) ([(w5.heap.size + 1, .int .i64 n, (.slice (some ⟨gw, 0, none⟩) css.length cw)), (w7.heap.size, .int .i64 u1, .slice a7 ucs.length c7), (w10.heap.size, .int .i64 v1, .slice a10 vcs.length c10)] ++ [(wz.heap.size, .int .i64 u1, .slice az ucs.length cz)]) ([(u1, .slice a7 ucs.length c7, L7), (v1, .slice a10 vcs.length c10, L10)] ++ [(u1, .slice az ucs.length cz, L)])) := HK4.out.ans B9.out ownz u1; clear ownz belz)
      | (go_at_call 15; refine Calls.mono (HCa.out _ HW2.out) ?_; rintro e wz ⟨az, cz, rfl, ownz, belz⟩; have B9 : Hid (Below w11.heap.size w11 wz) := Below.step HW2.out belz; have qz : Below (w11.alloc (.cells #[.int .i64 0, .slice none 0 0] 24)).heap.size (w11.alloc (.cells #[.int .i64 0, .slice none 0 0] 24)) wz := Below.step (Below.refl _ _).drew belz; have F9 : Hid (∃ L, L.map Prod.snd = ucs ∧ Kx w3 w5.heap.size wA ((wz.setCell ⟨w11.heap.size, 0, none⟩ (.int .i64 u1)).setCell ⟨w11.heap.size, 1, none⟩ (.slice az ucs.length cz)) ([(w5.heap.size + 1, .int .i64 n, (.slice (some ⟨gw, 0, none⟩) css.length cw)), (w7.heap.size, .int .i64 u1, .slice a7 ucs.length c7), (w10.heap.size, .int .i64 v1, .slice a10 vcs.length c10)] ++ [(w11.heap.size, .int .i64 u1, .slice az ucs.length cz)]) ([(u1, .slice a7 ucs.length c7, L7), (v1, .slice a10 vcs.length c10, L10)] ++ [(u1, .slice az ucs.length cz, L)])) := HK4.out.ans2 qz ownz u1; have BB : Hid (Bx2 wz w11.heap.size 24 (.int .i64 0) (.slice none 0 0)) := (Bx2.new _ _ _ _).below qz; have g0 := BB.out.c0; have g1 := BB.out.c1; have g2 := BB.out.f0; have g3 := BB.out.f1; clear ownz belz qz))
    all_goals
      go_wp2_with fail
      go_meet
      obtain ⟨L9, e9, k9⟩ := F9.out
      first
        | exact ⟨_, _, _, L9, rfl, e9, k9⟩
  case rest =>
  obtain ⟨D12, a12, c12, L12, rfl, e12, k12⟩ := hcut
  generalize wc = w12 at *
  have HE12 : Hid (L12.map Prod.snd = ucs) := e12
  have HK5 : Hid (Kx w3 w5.heap.size wA w12 [(w5.heap.size + 1, .int .i64 n, (.slice (some ⟨gw, 0, none⟩) css.length cw)), (w7.heap.size, .int .i64 u1, .slice a7 ucs.length c7), (w10.heap.size, .int .i64 v1, .slice a10 vcs.length c10), (D12, .int .i64 u1, .slice a12 ucs.length c12)] [(u1, .slice a7 ucs.length c7, L7), (v1, .slice a10 vcs.length c10, L10), (u1, .slice a12 ucs.length c12, L12)]) := k12
  clear HSx HCa HW1 HW2 e12 k12 HK4
  go_upto_region 9 with fail
  have b0 := (HK5.out.bx _ (List.mem_cons_self ..)).1.c0
  have b1 := (HK5.out.bx _ (List.mem_cons_self ..)).1.c1
  have HSx : Hid (∀ W', Below w12.heap.size w12 W' → Below w12.heap.size w12 W' ∧ W'.cell? ⟨w5.heap.size + 1, 0, none⟩ = some (.int .i64 n) ∧ W'.cell? ⟨w5.heap.size + 1, 1, none⟩ = some (.slice (some ⟨gw, 0, none⟩) css.length cw)) := fun W' h => ⟨h, (h.cell (p := ⟨w5.heap.size + 1, 0, none⟩) (World.block_lt_of_cell? w12 _ b0)).trans b0, (h.cell (p := ⟨w5.heap.size + 1, 1, none⟩) (World.block_lt_of_cell? w12 _ b1)).trans b1⟩
  have HCa : Hid (∀ W, Below w12.heap.size w12 W → Says Try.prog 15 (.slice (some ⟨gw, 0, none⟩) css.length cw) (.slice (some ⟨gq, 0, none⟩) part.length cq) n W u1 ucs ue) := fun W hb => says_p HU.out.1 (HRd.out W (HK5.out.below hb).ref).1 (HRd.out W (HK5.out.below hb).ref).2
  have hpc : part.length ≤ cq := by omega
  have HW1 : Hid (Below w12.heap.size w12 w12.drew) := (Below.refl _ _).drew
  have HW2 : Hid (Below w12.heap.size w12 (w12.alloc (.cells #[.int .i64 0, .slice none 0 0] 24)).drew) := (below_box _ _).drew
  clear b0 b1
  go_cut [16, 17] from 62 to 70 (fun p e wx => An w3 w5.heap.size wA [(w5.heap.size + 1, .int .i64 n, (.slice (some ⟨gw, 0, none⟩) css.length cw)), (w7.heap.size, .int .i64 u1, .slice a7 ucs.length c7), (w10.heap.size, .int .i64 v1, .slice a10 vcs.length c10), (D12, .int .i64 u1, .slice a12 ucs.length c12)] [(u1, .slice a7 ucs.length c7, L7), (v1, .slice a10 vcs.length c10, L10), (u1, .slice a12 ucs.length c12, L12)] u1 ucs p wx)
  case first =>
    go_region_held (fun W' => Below w12.heap.size w12 W' ∧ W'.cell? ⟨w5.heap.size + 1, 0, none⟩ = some (.int .i64 n) ∧ W'.cell? ⟨w5.heap.size + 1, 1, none⟩ = some (.slice (some ⟨gw, 0, none⟩) css.length cw)) (first | exact HSx.out _ HW1.out | exact HSx.out _ HW2.out | exact HSx.out _ B9.out | exact HSx.out _ (Below.step B9.out (below_box _ _)) | exact HSx.out _ (below_set B9.out (Nat.le_refl _) _ _) | exact HSx.out _ (below_set (below_set B9.out (Nat.le_refl _) _ _) (Nat.le_refl _) _ _) | exact HSx.out _ (below_set (below_set (Below.step B9.out (below_box _ _)) B9.out.size _ _) B9.out.size _ _)) (first
      | (go_at_call 15; refine Calls.mono (HCa.out _ HW1.out) ?_; rintro e wz ⟨az, cz, rfl, ownz, belz⟩; have B9 : Hid (Below w12.heap.size w12 wz) := Below.step HW1.out belz; have F9 : Hid (∃ L, L.map Prod.snd = ucs ∧ Kx w3 w5.heap.size wA (wz.alloc (.cells #[.int .i64 u1, .slice az ucs.length cz] 24)) ([(w5.heap.size + 1, .int .i64 n, (.slice (some ⟨gw, 0, none⟩) css.length cw)), (w7.heap.size, .int .i64 u1, .slice a7 ucs.length c7), (w10.heap.size, .int .i64 v1, .slice a10 vcs.length c10), (D12, .int .i64 u1, .slice a12 ucs.length c12)] ++ [(wz.heap.size, .int .i64 u1, .slice az ucs.length cz)]) ([(u1, .slice a7 ucs.length c7, L7), (v1, .slice a10 vcs.length c10, L10), (u1, .slice a12 ucs.length c12, L12)] ++ [(u1, .slice az ucs.length cz, L)])) := HK5.out.ans B9.out ownz u1; clear ownz belz)
      | (go_at_call 15; refine Calls.mono (HCa.out _ HW2.out) ?_; rintro e wz ⟨az, cz, rfl, ownz, belz⟩; have B9 : Hid (Below w12.heap.size w12 wz) := Below.step HW2.out belz; have qz : Below (w12.alloc (.cells #[.int .i64 0, .slice none 0 0] 24)).heap.size (w12.alloc (.cells #[.int .i64 0, .slice none 0 0] 24)) wz := Below.step (Below.refl _ _).drew belz; have F9 : Hid (∃ L, L.map Prod.snd = ucs ∧ Kx w3 w5.heap.size wA ((wz.setCell ⟨w12.heap.size, 0, none⟩ (.int .i64 u1)).setCell ⟨w12.heap.size, 1, none⟩ (.slice az ucs.length cz)) ([(w5.heap.size + 1, .int .i64 n, (.slice (some ⟨gw, 0, none⟩) css.length cw)), (w7.heap.size, .int .i64 u1, .slice a7 ucs.length c7), (w10.heap.size, .int .i64 v1, .slice a10 vcs.length c10), (D12, .int .i64 u1, .slice a12 ucs.length c12)] ++ [(w12.heap.size, .int .i64 u1, .slice az ucs.length cz)]) ([(u1, .slice a7 ucs.length c7, L7), (v1, .slice a10 vcs.length c10, L10), (u1, .slice a12 ucs.length c12, L12)] ++ [(u1, .slice az ucs.length cz, L)])) := HK5.out.ans2 qz ownz u1; have BB : Hid (Bx2 wz w12.heap.size 24 (.int .i64 0) (.slice none 0 0)) := (Bx2.new _ _ _ _).below qz; have g0 := BB.out.c0; have g1 := BB.out.c1; have g2 := BB.out.f0; have g3 := BB.out.f1; clear ownz belz qz))
    all_goals
      go_wp2_with fail
      go_meet
      obtain ⟨L9, e9, k9⟩ := F9.out
      first
        | exact ⟨_, _, _, L9, rfl, e9, k9⟩
  case rest =>
  obtain ⟨D13, a13, c13, L13, rfl, e13, k13⟩ := hcut
  generalize wc = w13 at *
  have HE13 : Hid (L13.map Prod.snd = ucs) := e13
  have HK6 : Hid (Kx w3 w5.heap.size wA w13 [(w5.heap.size + 1, .int .i64 n, (.slice (some ⟨gw, 0, none⟩) css.length cw)), (w7.heap.size, .int .i64 u1, .slice a7 ucs.length c7), (w10.heap.size, .int .i64 v1, .slice a10 vcs.length c10), (D12, .int .i64 u1, .slice a12 ucs.length c12), (D13, .int .i64 u1, .slice a13 ucs.length c13)] [(u1, .slice a7 ucs.length c7, L7), (v1, .slice a10 vcs.length c10, L10), (u1, .slice a12 ucs.length c12, L12), (u1, .slice a13 ucs.length c13, L13)]) := k13
  clear HSx HCa HW1 HW2 e13 k13 HK5
  have f1 := (HX3.out.on HK6.out.bel).c1
  have x0 := (HA.out.below HK6.out.ref).x.c0
  have x1 := (HA.out.below HK6.out.ref).x.c1
  have x2 := (HA.out.below HK6.out.ref).x.c2
  go_wp2_with fail
  refine Calls.mono (keptRows_any w3.heap.size (.slice (some ⟨gw, 0, none⟩) css.length cw) (.slice (some ⟨gw, 0, none⟩) (css.length + 64) cw) (.slice ar L.length cr) s css L M w13 (HA.out.below HK6.out.ref).k (HX3.out.on HK6.out.bel).rd (by have := H8.out.2.1; omega)) ?_
  rintro e w14 ⟨rfl, bel14⟩
  have HK7 : Hid (Kx w3 w5.heap.size wA w14 [(w5.heap.size + 1, .int .i64 n, (.slice (some ⟨gw, 0, none⟩) css.length cw)), (w7.heap.size, .int .i64 u1, .slice a7 ucs.length c7), (w10.heap.size, .int .i64 v1, .slice a10 vcs.length c10), (D12, .int .i64 u1, .slice a12 ucs.length c12), (D13, .int .i64 u1, .slice a13 ucs.length c13)] [(u1, .slice a7 ucs.length c7, L7), (v1, .slice a10 vcs.length c10, L10), (u1, .slice a12 ucs.length c12, L12), (u1, .slice a13 ucs.length c13, L13)]) := HK6.out.below bel14
  clear bel14 HK6 f1 x0 x1 x2
  go_wp2_with fail
  refine Calls.mono (kept_any w4.heap.size (.slice (some ⟨gq, 0, none⟩) (part.length + 64) cq) (.slice ap part.length cp) part w14 (HA.out.below HK7.out.ref).q (HP3.out.below HK7.out.bel)) ?_
  rintro e w15 ⟨rfl, bel15⟩
  have HK8 : Hid (Kx w3 w5.heap.size wA w15 [(w5.heap.size + 1, .int .i64 n, (.slice (some ⟨gw, 0, none⟩) css.length cw)), (w7.heap.size, .int .i64 u1, .slice a7 ucs.length c7), (w10.heap.size, .int .i64 v1, .slice a10 vcs.length c10), (D12, .int .i64 u1, .slice a12 ucs.length c12), (D13, .int .i64 u1, .slice a13 ucs.length c13)] [(u1, .slice a7 ucs.length c7, L7), (v1, .slice a10 vcs.length c10, L10), (u1, .slice a12 ucs.length c12, L12), (u1, .slice a13 ucs.length c13, L13)]) := HK7.out.below bel15
  clear bel15 HK7
  have x0 := (HA.out.below HK8.out.ref).x.c0
  go_wp2_with fail
  refine Calls.mono (turn_any w3.heap.size (some ⟨gw, 0, none⟩) cw css m64 L w15 (HA.out.below HK8.out.ref).k.tn (by have := HCw.out.1; omega) (by have := H8.out.2.1; omega) (fun z hz => by have := H8.out.1 z hz; omega)) ?_
  rintro e w16 ⟨⟨v16, rfl⟩, hf16, tn16⟩
  have HQk : Hid (∀ k, TnB L k → w3.heap.size ≤ k ∧ k < w4.heap.size) := fun k ⟨x, hx, e⟩ => HLo.out.1 k (.inr (.inr ⟨x, hx, e⟩))
  have HK9 : Hid (Kx w3 w5.heap.size w16 w16 [(w5.heap.size + 1, .int .i64 n, (.slice (some ⟨gw, 0, none⟩) css.length cw)), (w7.heap.size, .int .i64 u1, .slice a7 ucs.length c7), (w10.heap.size, .int .i64 v1, .slice a10 vcs.length c10), (D12, .int .i64 u1, .slice a12 ucs.length c12), (D13, .int .i64 u1, .slice a13 ucs.length c13)] [(u1, .slice a7 ucs.length c7, L7), (v1, .slice a10 vcs.length c10, L10), (u1, .slice a12 ucs.length c12, L12), (u1, .slice a13 ucs.length c13, L13)]) := HK8.out.out hf16 (fun k hk => by have := HQk.out k hk; have := HS5.out; omega)
  have HB : Hid (Rb w3.heap.size w4.heap.size w5.heap.size (.slice (some ⟨gw, 0, none⟩) css.length cw) (.slice (some ⟨gw, 0, none⟩) (css.length + 64) cw) (.slice ar L.length cr) (.slice (some ⟨gq, 0, none⟩) (part.length + 64) cq) (css.map (·.map ngv)) (L.map (tnC m64)) (L.map cutV ++ M.map Prod.fst) part w16) := by
    have h := HA.out.below HK8.out.ref
    refine ⟨h.k.l.turned hf16 tn16, ?_, own_out h.q hf16 (fun k hk => (HQk.out k hk).2), bx3_out h.x hf16 (fun k hk => by have := HQk.out k hk; have := HS5.out; omega)⟩
    have h5 := tn16.rds (c := cw) (by rw [List.length_map]; have := HCw.out.1; omega) HCw.out.2 (by simp) (by rw [List.length_map]; have := H8.out.2.1; omega) (ng8 H8.out.1)
    rw [List.length_map] at h5
    exact h5
  have HNl : Hid ((L.map cutV ++ M.map Prod.fst).length = css.length + 64) := by
    have h := HA.out.k.len
    show _ = _
    rw [List.length_append, List.length_map, List.length_map, h.1, h.2]
  clear hf16 tn16 HK8 x0 HRd
  have HRd : Hid (∀ W, Below w16.heap.size w16 W → Rds W (.slice (some ⟨gw, 0, none⟩) css.length cw) (css.map (·.map ngv)) ∧ Rd W (.slice (some ⟨gq, 0, none⟩) part.length cq) part) := fun W hb => by
    have h := HB.out.below hb
    exact ⟨h.i, own_hd h.q (by omega) H8.out.2.2⟩
  --D4
  go_upto_region 13 with fail
  have b0 := (HK9.out.bx _ (List.mem_cons_self ..)).1.c0
  have b1 := (HK9.out.bx _ (List.mem_cons_self ..)).1.c1
  have HSx : Hid (∀ W', Below w16.heap.size w16 W' → Below w16.heap.size w16 W' ∧ W'.cell? ⟨w5.heap.size + 1, 0, none⟩ = some (.int .i64 n) ∧ W'.cell? ⟨w5.heap.size + 1, 1, none⟩ = some (.slice (some ⟨gw, 0, none⟩) css.length cw)) := fun W' h => ⟨h, (h.cell (p := ⟨w5.heap.size + 1, 0, none⟩) (World.block_lt_of_cell? w16 _ b0)).trans b0, (h.cell (p := ⟨w5.heap.size + 1, 1, none⟩) (World.block_lt_of_cell? w16 _ b1)).trans b1⟩
  have HCa : Hid (∀ W, Below w16.heap.size w16 W → Says Try.prog 15 (.slice (some ⟨gw, 0, none⟩) css.length cw) (.slice (some ⟨gq, 0, none⟩) part.length cq) n W v1 vcs ve) := fun W hb => says_p HV.out.1 (HRd.out W (HK9.out.below hb).ref).1 (HRd.out W (HK9.out.below hb).ref).2
  have hpc : part.length ≤ cq := by omega
  have HW1 : Hid (Below w16.heap.size w16 w16.drew) := (Below.refl _ _).drew
  have HW2 : Hid (Below w16.heap.size w16 (w16.alloc (.cells #[.int .i64 0, .slice none 0 0] 24)).drew) := (below_box _ _).drew
  clear b0 b1
  go_cut [18, 19] from 85 to 93 (fun p e wx => An w3 w5.heap.size w16 [(w5.heap.size + 1, .int .i64 n, (.slice (some ⟨gw, 0, none⟩) css.length cw)), (w7.heap.size, .int .i64 u1, .slice a7 ucs.length c7), (w10.heap.size, .int .i64 v1, .slice a10 vcs.length c10), (D12, .int .i64 u1, .slice a12 ucs.length c12), (D13, .int .i64 u1, .slice a13 ucs.length c13)] [(u1, .slice a7 ucs.length c7, L7), (v1, .slice a10 vcs.length c10, L10), (u1, .slice a12 ucs.length c12, L12), (u1, .slice a13 ucs.length c13, L13)] v1 vcs p wx)
  case first =>
    go_region_held (fun W' => Below w16.heap.size w16 W' ∧ W'.cell? ⟨w5.heap.size + 1, 0, none⟩ = some (.int .i64 n) ∧ W'.cell? ⟨w5.heap.size + 1, 1, none⟩ = some (.slice (some ⟨gw, 0, none⟩) css.length cw)) (first | exact HSx.out _ HW1.out | exact HSx.out _ HW2.out | exact HSx.out _ B9.out | exact HSx.out _ (Below.step B9.out (below_box _ _)) | exact HSx.out _ (below_set B9.out (Nat.le_refl _) _ _) | exact HSx.out _ (below_set (below_set B9.out (Nat.le_refl _) _ _) (Nat.le_refl _) _ _) | exact HSx.out _ (below_set (below_set (Below.step B9.out (below_box _ _)) B9.out.size _ _) B9.out.size _ _)) (first
      | (go_at_call 15; refine Calls.mono (HCa.out _ HW1.out) ?_; rintro e wz ⟨az, cz, rfl, ownz, belz⟩; have B9 : Hid (Below w16.heap.size w16 wz) := Below.step HW1.out belz; have F9 : Hid (∃ L, L.map Prod.snd = vcs ∧ Kx w3 w5.heap.size w16 (wz.alloc (.cells #[.int .i64 v1, .slice az vcs.length cz] 24)) ([(w5.heap.size + 1, .int .i64 n, (.slice (some ⟨gw, 0, none⟩) css.length cw)), (w7.heap.size, .int .i64 u1, .slice a7 ucs.length c7), (w10.heap.size, .int .i64 v1, .slice a10 vcs.length c10), (D12, .int .i64 u1, .slice a12 ucs.length c12), (D13, .int .i64 u1, .slice a13 ucs.length c13)] ++ [(wz.heap.size, .int .i64 v1, .slice az vcs.length cz)]) ([(u1, .slice a7 ucs.length c7, L7), (v1, .slice a10 vcs.length c10, L10), (u1, .slice a12 ucs.length c12, L12), (u1, .slice a13 ucs.length c13, L13)] ++ [(v1, .slice az vcs.length cz, L)])) := HK9.out.ans B9.out ownz v1; clear ownz belz)
      | (go_at_call 15; refine Calls.mono (HCa.out _ HW2.out) ?_; rintro e wz ⟨az, cz, rfl, ownz, belz⟩; have B9 : Hid (Below w16.heap.size w16 wz) := Below.step HW2.out belz; have qz : Below (w16.alloc (.cells #[.int .i64 0, .slice none 0 0] 24)).heap.size (w16.alloc (.cells #[.int .i64 0, .slice none 0 0] 24)) wz := Below.step (Below.refl _ _).drew belz; have F9 : Hid (∃ L, L.map Prod.snd = vcs ∧ Kx w3 w5.heap.size w16 ((wz.setCell ⟨w16.heap.size, 0, none⟩ (.int .i64 v1)).setCell ⟨w16.heap.size, 1, none⟩ (.slice az vcs.length cz)) ([(w5.heap.size + 1, .int .i64 n, (.slice (some ⟨gw, 0, none⟩) css.length cw)), (w7.heap.size, .int .i64 u1, .slice a7 ucs.length c7), (w10.heap.size, .int .i64 v1, .slice a10 vcs.length c10), (D12, .int .i64 u1, .slice a12 ucs.length c12), (D13, .int .i64 u1, .slice a13 ucs.length c13)] ++ [(w16.heap.size, .int .i64 v1, .slice az vcs.length cz)]) ([(u1, .slice a7 ucs.length c7, L7), (v1, .slice a10 vcs.length c10, L10), (u1, .slice a12 ucs.length c12, L12), (u1, .slice a13 ucs.length c13, L13)] ++ [(v1, .slice az vcs.length cz, L)])) := HK9.out.ans2 qz ownz v1; have BB : Hid (Bx2 wz w16.heap.size 24 (.int .i64 0) (.slice none 0 0)) := (Bx2.new _ _ _ _).below qz; have g0 := BB.out.c0; have g1 := BB.out.c1; have g2 := BB.out.f0; have g3 := BB.out.f1; clear ownz belz qz))
    all_goals
      go_wp2_with fail
      go_meet
      obtain ⟨L9, e9, k9⟩ := F9.out
      first
        | exact ⟨_, _, _, L9, rfl, e9, k9⟩
  case rest =>
  obtain ⟨D17, a17, c17, L17, rfl, e17, k17⟩ := hcut
  generalize wc = w17 at *
  have HE17 : Hid (L17.map Prod.snd = vcs) := e17
  have HK10 : Hid (Kx w3 w5.heap.size w16 w17 [(w5.heap.size + 1, .int .i64 n, (.slice (some ⟨gw, 0, none⟩) css.length cw)), (w7.heap.size, .int .i64 u1, .slice a7 ucs.length c7), (w10.heap.size, .int .i64 v1, .slice a10 vcs.length c10), (D12, .int .i64 u1, .slice a12 ucs.length c12), (D13, .int .i64 u1, .slice a13 ucs.length c13), (D17, .int .i64 v1, .slice a17 vcs.length c17)] [(u1, .slice a7 ucs.length c7, L7), (v1, .slice a10 vcs.length c10, L10), (u1, .slice a12 ucs.length c12, L12), (u1, .slice a13 ucs.length c13, L13), (v1, .slice a17 vcs.length c17, L17)]) := k17
  clear HSx HCa HW1 HW2 e17 k17 HK9
  go_upto_region 14 with fail
  have b0 := (HK10.out.bx _ (List.mem_cons_self ..)).1.c0
  have b1 := (HK10.out.bx _ (List.mem_cons_self ..)).1.c1
  have HSx : Hid (∀ W', Below w17.heap.size w17 W' → Below w17.heap.size w17 W' ∧ W'.cell? ⟨w5.heap.size + 1, 0, none⟩ = some (.int .i64 n) ∧ W'.cell? ⟨w5.heap.size + 1, 1, none⟩ = some (.slice (some ⟨gw, 0, none⟩) css.length cw)) := fun W' h => ⟨h, (h.cell (p := ⟨w5.heap.size + 1, 0, none⟩) (World.block_lt_of_cell? w17 _ b0)).trans b0, (h.cell (p := ⟨w5.heap.size + 1, 1, none⟩) (World.block_lt_of_cell? w17 _ b1)).trans b1⟩
  have HCa : Hid (∀ W, Below w17.heap.size w17 W → Says Try.prog 15 (.slice (some ⟨gw, 0, none⟩) css.length cw) (.slice (some ⟨gq, 0, none⟩) part.length cq) n W v1 vcs ve) := fun W hb => says_p HV.out.1 (HRd.out W (HK10.out.below hb).ref).1 (HRd.out W (HK10.out.below hb).ref).2
  have hpc : part.length ≤ cq := by omega
  have HW1 : Hid (Below w17.heap.size w17 w17.drew) := (Below.refl _ _).drew
  have HW2 : Hid (Below w17.heap.size w17 (w17.alloc (.cells #[.int .i64 0, .slice none 0 0] 24)).drew) := (below_box _ _).drew
  clear b0 b1
  go_cut [20, 21] from 94 to 102 (fun p e wx => An w3 w5.heap.size w16 [(w5.heap.size + 1, .int .i64 n, (.slice (some ⟨gw, 0, none⟩) css.length cw)), (w7.heap.size, .int .i64 u1, .slice a7 ucs.length c7), (w10.heap.size, .int .i64 v1, .slice a10 vcs.length c10), (D12, .int .i64 u1, .slice a12 ucs.length c12), (D13, .int .i64 u1, .slice a13 ucs.length c13), (D17, .int .i64 v1, .slice a17 vcs.length c17)] [(u1, .slice a7 ucs.length c7, L7), (v1, .slice a10 vcs.length c10, L10), (u1, .slice a12 ucs.length c12, L12), (u1, .slice a13 ucs.length c13, L13), (v1, .slice a17 vcs.length c17, L17)] v1 vcs p wx)
  case first =>
    go_region_held (fun W' => Below w17.heap.size w17 W' ∧ W'.cell? ⟨w5.heap.size + 1, 0, none⟩ = some (.int .i64 n) ∧ W'.cell? ⟨w5.heap.size + 1, 1, none⟩ = some (.slice (some ⟨gw, 0, none⟩) css.length cw)) (first | exact HSx.out _ HW1.out | exact HSx.out _ HW2.out | exact HSx.out _ B9.out | exact HSx.out _ (Below.step B9.out (below_box _ _)) | exact HSx.out _ (below_set B9.out (Nat.le_refl _) _ _) | exact HSx.out _ (below_set (below_set B9.out (Nat.le_refl _) _ _) (Nat.le_refl _) _ _) | exact HSx.out _ (below_set (below_set (Below.step B9.out (below_box _ _)) B9.out.size _ _) B9.out.size _ _)) (first
      | (go_at_call 15; refine Calls.mono (HCa.out _ HW1.out) ?_; rintro e wz ⟨az, cz, rfl, ownz, belz⟩; have B9 : Hid (Below w17.heap.size w17 wz) := Below.step HW1.out belz; have F9 : Hid (∃ L, L.map Prod.snd = vcs ∧ Kx w3 w5.heap.size w16 (wz.alloc (.cells #[.int .i64 v1, .slice az vcs.length cz] 24)) ([(w5.heap.size + 1, .int .i64 n, (.slice (some ⟨gw, 0, none⟩) css.length cw)), (w7.heap.size, .int .i64 u1, .slice a7 ucs.length c7), (w10.heap.size, .int .i64 v1, .slice a10 vcs.length c10), (D12, .int .i64 u1, .slice a12 ucs.length c12), (D13, .int .i64 u1, .slice a13 ucs.length c13), (D17, .int .i64 v1, .slice a17 vcs.length c17)] ++ [(wz.heap.size, .int .i64 v1, .slice az vcs.length cz)]) ([(u1, .slice a7 ucs.length c7, L7), (v1, .slice a10 vcs.length c10, L10), (u1, .slice a12 ucs.length c12, L12), (u1, .slice a13 ucs.length c13, L13), (v1, .slice a17 vcs.length c17, L17)] ++ [(v1, .slice az vcs.length cz, L)])) := HK10.out.ans B9.out ownz v1; clear ownz belz)
      | (go_at_call 15; refine Calls.mono (HCa.out _ HW2.out) ?_; rintro e wz ⟨az, cz, rfl, ownz, belz⟩; have B9 : Hid (Below w17.heap.size w17 wz) := Below.step HW2.out belz; have qz : Below (w17.alloc (.cells #[.int .i64 0, .slice none 0 0] 24)).heap.size (w17.alloc (.cells #[.int .i64 0, .slice none 0 0] 24)) wz := Below.step (Below.refl _ _).drew belz; have F9 : Hid (∃ L, L.map Prod.snd = vcs ∧ Kx w3 w5.heap.size w16 ((wz.setCell ⟨w17.heap.size, 0, none⟩ (.int .i64 v1)).setCell ⟨w17.heap.size, 1, none⟩ (.slice az vcs.length cz)) ([(w5.heap.size + 1, .int .i64 n, (.slice (some ⟨gw, 0, none⟩) css.length cw)), (w7.heap.size, .int .i64 u1, .slice a7 ucs.length c7), (w10.heap.size, .int .i64 v1, .slice a10 vcs.length c10), (D12, .int .i64 u1, .slice a12 ucs.length c12), (D13, .int .i64 u1, .slice a13 ucs.length c13), (D17, .int .i64 v1, .slice a17 vcs.length c17)] ++ [(w17.heap.size, .int .i64 v1, .slice az vcs.length cz)]) ([(u1, .slice a7 ucs.length c7, L7), (v1, .slice a10 vcs.length c10, L10), (u1, .slice a12 ucs.length c12, L12), (u1, .slice a13 ucs.length c13, L13), (v1, .slice a17 vcs.length c17, L17)] ++ [(v1, .slice az vcs.length cz, L)])) := HK10.out.ans2 qz ownz v1; have BB : Hid (Bx2 wz w17.heap.size 24 (.int .i64 0) (.slice none 0 0)) := (Bx2.new _ _ _ _).below qz; have g0 := BB.out.c0; have g1 := BB.out.c1; have g2 := BB.out.f0; have g3 := BB.out.f1; clear ownz belz qz))
    all_goals
      go_wp2_with fail
      go_meet
      obtain ⟨L9, e9, k9⟩ := F9.out
      first
        | exact ⟨_, _, _, L9, rfl, e9, k9⟩
  case rest =>
  obtain ⟨D18, a18, c18, L18, rfl, e18, k18⟩ := hcut
  generalize wc = w18 at *
  have HE18 : Hid (L18.map Prod.snd = vcs) := e18
  have HK11 : Hid (Kx w3 w5.heap.size w16 w18 [(w5.heap.size + 1, .int .i64 n, (.slice (some ⟨gw, 0, none⟩) css.length cw)), (w7.heap.size, .int .i64 u1, .slice a7 ucs.length c7), (w10.heap.size, .int .i64 v1, .slice a10 vcs.length c10), (D12, .int .i64 u1, .slice a12 ucs.length c12), (D13, .int .i64 u1, .slice a13 ucs.length c13), (D17, .int .i64 v1, .slice a17 vcs.length c17), (D18, .int .i64 v1, .slice a18 vcs.length c18)] [(u1, .slice a7 ucs.length c7, L7), (v1, .slice a10 vcs.length c10, L10), (u1, .slice a12 ucs.length c12, L12), (u1, .slice a13 ucs.length c13, L13), (v1, .slice a17 vcs.length c17, L17), (v1, .slice a18 vcs.length c18, L18)]) := k18
  clear HSx HCa HW1 HW2 e18 k18 HK10
  --D5
  have x0 := (HB.out.below HK11.out.ref).x.c0
  have x1 := (HB.out.below HK11.out.ref).x.c1
  have x2 := (HB.out.below HK11.out.ref).x.c2
  have hLm : (L.map (tnC m64)).length = L.length := List.length_map _
  go_wp2_with fail
  refine Calls.mono (overRows_any w3.heap.size (.slice (some ⟨gw, 0, none⟩) css.length cw) (.slice ar L.length cr) gw cw (css.length + 64) (L.map (tnC m64)) _ [] w18 (HB.out.below HK11.out.ref).l HNl.out (by have := H8.out.2.1; omega) (by rw [hLm, HLo.out.2]; have := H8.out.2.1; omega) (fun x hx => by
    obtain ⟨y, hy, rfl⟩ := List.mem_map.1 hx
    have h1 := HA.out.k.ls
    have h2 : y.2 ∈ css.map (· ++ m64) := by rw [← h1]; exact List.mem_map_of_mem hy
    obtain ⟨z, hz, e⟩ := List.mem_map.1 h2
    have h3 := H8.out.1 z hz
    show ((y.2.take (y.2.length - m64.length)).map ngv ++ m64).length ≤ _
    rw [← e]
    simp only [List.length_append, m64_len, List.length_map, List.length_take]
    omega) (Nat.le_trans (Nat.le_trans HS5.out.1 HS5.out.2) HK11.out.sz)) ?_
  rintro e w19 ⟨rfl, hf19, -⟩
  have HK12 : Hid (Kx w3 w5.heap.size w19 w19 [(w5.heap.size + 1, .int .i64 n, (.slice (some ⟨gw, 0, none⟩) css.length cw)), (w7.heap.size, .int .i64 u1, .slice a7 ucs.length c7), (w10.heap.size, .int .i64 v1, .slice a10 vcs.length c10), (D12, .int .i64 u1, .slice a12 ucs.length c12), (D13, .int .i64 u1, .slice a13 ucs.length c13), (D17, .int .i64 v1, .slice a17 vcs.length c17), (D18, .int .i64 v1, .slice a18 vcs.length c18)] [(u1, .slice a7 ucs.length c7, L7), (v1, .slice a10 vcs.length c10, L10), (u1, .slice a12 ucs.length c12, L12), (u1, .slice a13 ucs.length c13, L13), (v1, .slice a17 vcs.length c17, L17), (v1, .slice a18 vcs.length c18, L18)]) := HK11.out.out hf19 (fun k hk => by have := HLo.out.1 k (lown_turned hk); have := HS5.out; omega)
  have HQ19 : Hid (Own w4.heap.size w19 (.slice (some ⟨gq, 0, none⟩) (part.length + 64) cq) (part ++ m64)) := own_out (HB.out.below HK11.out.ref).q hf19 (fun k hk => (HLo.out.1 k (lown_turned hk)).2)
  clear hf19 HK11 x0 x1 x2 hLm HRd HB HA HNl
  go_wp2_with fail
  refine Calls.mono (over_any w4.heap.size (.slice (some ⟨gq, 0, none⟩) (part.length + 64) cq) (part ++ m64) w19 HQ19.out (by rw [List.length_append, m64_len]; have := H8.out.2.2; omega)) ?_
  rintro e w20 ⟨⟨v20, rfl⟩, -, hg20⟩
  have HK13 : Hid (Kx w3 w5.heap.size w20 w20 [(w5.heap.size + 1, .int .i64 n, (.slice (some ⟨gw, 0, none⟩) css.length cw)), (w7.heap.size, .int .i64 u1, .slice a7 ucs.length c7), (w10.heap.size, .int .i64 v1, .slice a10 vcs.length c10), (D12, .int .i64 u1, .slice a12 ucs.length c12), (D13, .int .i64 u1, .slice a13 ucs.length c13), (D17, .int .i64 v1, .slice a17 vcs.length c17), (D18, .int .i64 v1, .slice a18 vcs.length c18)] [(u1, .slice a7 ucs.length c7, L7), (v1, .slice a10 vcs.length c10, L10), (u1, .slice a12 ucs.length c12, L12), (u1, .slice a13 ucs.length c13, L13), (v1, .slice a17 vcs.length c17, L17), (v1, .slice a18 vcs.length c18, L18)]) := HK12.out.out (Q := fun k => some k = (Value.slice (some ⟨gq, 0, none⟩) (part.length + 64) cq).ownBlock) ((Fr.refl _ _).grown hg20 (fun g e => e.symm)) (fun k hk => by have := HQo.out k hk; have := HS5.out; omega)
  clear hg20 HK12 HQ19
  have HUr : Hid (∀ W a c (L0 : List Cls), OwnR w5.heap.size W (.slice a ucs.length c) L0 → L0.map Prod.snd = ucs → Rds W (.slice a ucs.length c) ucs) := fun W a c L0 h e => OwnF.rds ⟨L0, h, e⟩ (by have := HU.out.2.1; omega) HU.out.2.2
  have HVr : Hid (∀ W a c (L0 : List Cls), OwnR w5.heap.size W (.slice a vcs.length c) L0 → L0.map Prod.snd = vcs → Rds W (.slice a vcs.length c) vcs) := fun W a c L0 h e => OwnF.rds ⟨L0, h, e⟩ (by have := HV.out.2.1; omega) HV.out.2.2
  have g00 := (HK13.out.bx (D12, .int .i64 u1, .slice a12 ucs.length c12) (by simp)).1.c0
  have g01 := (HK13.out.bx (D12, .int .i64 u1, .slice a12 ucs.length c12) (by simp)).1.c1
  have g10 := (HK13.out.bx (w7.heap.size, .int .i64 u1, .slice a7 ucs.length c7) (by simp)).1.c0
  have g11 := (HK13.out.bx (w7.heap.size, .int .i64 u1, .slice a7 ucs.length c7) (by simp)).1.c1
  go_wp2_with fail
  refine Calls.mono (sameFormula_self u1 _ _ ucs w20 (HUr.out _ _ _ L12 (HK13.out.own (u1, .slice a12 ucs.length c12, L12) (by simp)) HE12.out) (HUr.out _ _ _ L7 (HK13.out.own (u1, .slice a7 ucs.length c7, L7) (by simp)) HE7.out)) ?_
  rintro e w21 ⟨rfl, bel21⟩
  have HK14 : Hid (Kx w3 w5.heap.size w20 w21 [(w5.heap.size + 1, .int .i64 n, (.slice (some ⟨gw, 0, none⟩) css.length cw)), (w7.heap.size, .int .i64 u1, .slice a7 ucs.length c7), (w10.heap.size, .int .i64 v1, .slice a10 vcs.length c10), (D12, .int .i64 u1, .slice a12 ucs.length c12), (D13, .int .i64 u1, .slice a13 ucs.length c13), (D17, .int .i64 v1, .slice a17 vcs.length c17), (D18, .int .i64 v1, .slice a18 vcs.length c18)] [(u1, .slice a7 ucs.length c7, L7), (v1, .slice a10 vcs.length c10, L10), (u1, .slice a12 ucs.length c12, L12), (u1, .slice a13 ucs.length c13, L13), (v1, .slice a17 vcs.length c17, L17), (v1, .slice a18 vcs.length c18, L18)]) := HK13.out.below bel21
  clear bel21 HK13
  clear g00 g01 g10 g11
  have g00 := (HK14.out.bx (D13, .int .i64 u1, .slice a13 ucs.length c13) (by simp)).1.c0
  have g01 := (HK14.out.bx (D13, .int .i64 u1, .slice a13 ucs.length c13) (by simp)).1.c1
  have g10 := (HK14.out.bx (w7.heap.size, .int .i64 u1, .slice a7 ucs.length c7) (by simp)).1.c0
  have g11 := (HK14.out.bx (w7.heap.size, .int .i64 u1, .slice a7 ucs.length c7) (by simp)).1.c1
  go_wp2_with fail
  refine Calls.mono (sameFormula_self u1 _ _ ucs w21 (HUr.out _ _ _ L13 (HK14.out.own (u1, .slice a13 ucs.length c13, L13) (by simp)) HE13.out) (HUr.out _ _ _ L7 (HK14.out.own (u1, .slice a7 ucs.length c7, L7) (by simp)) HE7.out)) ?_
  rintro e w22 ⟨rfl, bel22⟩
  have HK15 : Hid (Kx w3 w5.heap.size w20 w22 [(w5.heap.size + 1, .int .i64 n, (.slice (some ⟨gw, 0, none⟩) css.length cw)), (w7.heap.size, .int .i64 u1, .slice a7 ucs.length c7), (w10.heap.size, .int .i64 v1, .slice a10 vcs.length c10), (D12, .int .i64 u1, .slice a12 ucs.length c12), (D13, .int .i64 u1, .slice a13 ucs.length c13), (D17, .int .i64 v1, .slice a17 vcs.length c17), (D18, .int .i64 v1, .slice a18 vcs.length c18)] [(u1, .slice a7 ucs.length c7, L7), (v1, .slice a10 vcs.length c10, L10), (u1, .slice a12 ucs.length c12, L12), (u1, .slice a13 ucs.length c13, L13), (v1, .slice a17 vcs.length c17, L17), (v1, .slice a18 vcs.length c18, L18)]) := HK14.out.below bel22
  clear bel22 HK14
  clear g00 g01 g10 g11
  have g00 := (HK15.out.bx (D17, .int .i64 v1, .slice a17 vcs.length c17) (by simp)).1.c0
  have g01 := (HK15.out.bx (D17, .int .i64 v1, .slice a17 vcs.length c17) (by simp)).1.c1
  have g10 := (HK15.out.bx (w10.heap.size, .int .i64 v1, .slice a10 vcs.length c10) (by simp)).1.c0
  have g11 := (HK15.out.bx (w10.heap.size, .int .i64 v1, .slice a10 vcs.length c10) (by simp)).1.c1
  go_wp2_with fail
  refine Calls.mono (sameFormula_self v1 _ _ vcs w22 (HVr.out _ _ _ L17 (HK15.out.own (v1, .slice a17 vcs.length c17, L17) (by simp)) HE17.out) (HVr.out _ _ _ L10 (HK15.out.own (v1, .slice a10 vcs.length c10, L10) (by simp)) HE10.out)) ?_
  rintro e w23 ⟨rfl, bel23⟩
  have HK16 : Hid (Kx w3 w5.heap.size w20 w23 [(w5.heap.size + 1, .int .i64 n, (.slice (some ⟨gw, 0, none⟩) css.length cw)), (w7.heap.size, .int .i64 u1, .slice a7 ucs.length c7), (w10.heap.size, .int .i64 v1, .slice a10 vcs.length c10), (D12, .int .i64 u1, .slice a12 ucs.length c12), (D13, .int .i64 u1, .slice a13 ucs.length c13), (D17, .int .i64 v1, .slice a17 vcs.length c17), (D18, .int .i64 v1, .slice a18 vcs.length c18)] [(u1, .slice a7 ucs.length c7, L7), (v1, .slice a10 vcs.length c10, L10), (u1, .slice a12 ucs.length c12, L12), (u1, .slice a13 ucs.length c13, L13), (v1, .slice a17 vcs.length c17, L17), (v1, .slice a18 vcs.length c18, L18)]) := HK15.out.below bel23
  clear bel23 HK15
  clear g00 g01 g10 g11
  have g00 := (HK16.out.bx (D18, .int .i64 v1, .slice a18 vcs.length c18) (by simp)).1.c0
  have g01 := (HK16.out.bx (D18, .int .i64 v1, .slice a18 vcs.length c18) (by simp)).1.c1
  have g10 := (HK16.out.bx (w10.heap.size, .int .i64 v1, .slice a10 vcs.length c10) (by simp)).1.c0
  have g11 := (HK16.out.bx (w10.heap.size, .int .i64 v1, .slice a10 vcs.length c10) (by simp)).1.c1
  go_wp2_with fail
  refine Calls.mono (sameFormula_self v1 _ _ vcs w23 (HVr.out _ _ _ L18 (HK16.out.own (v1, .slice a18 vcs.length c18, L18) (by simp)) HE18.out) (HVr.out _ _ _ L10 (HK16.out.own (v1, .slice a10 vcs.length c10, L10) (by simp)) HE10.out)) ?_
  rintro e w24 ⟨rfl, bel24⟩
  have HK17 : Hid (Kx w3 w5.heap.size w20 w24 [(w5.heap.size + 1, .int .i64 n, (.slice (some ⟨gw, 0, none⟩) css.length cw)), (w7.heap.size, .int .i64 u1, .slice a7 ucs.length c7), (w10.heap.size, .int .i64 v1, .slice a10 vcs.length c10), (D12, .int .i64 u1, .slice a12 ucs.length c12), (D13, .int .i64 u1, .slice a13 ucs.length c13), (D17, .int .i64 v1, .slice a17 vcs.length c17), (D18, .int .i64 v1, .slice a18 vcs.length c18)] [(u1, .slice a7 ucs.length c7, L7), (v1, .slice a10 vcs.length c10, L10), (u1, .slice a12 ucs.length c12, L12), (u1, .slice a13 ucs.length c13, L13), (v1, .slice a17 vcs.length c17, L17), (v1, .slice a18 vcs.length c18, L18)]) := HK16.out.below bel24
  clear bel24 HK16
  clear g00 g01 g10 g11
  have g00 := (HK17.out.bx (D12, .int .i64 u1, .slice a12 ucs.length c12) (by simp)).1.c0
  have g01 := (HK17.out.bx (D12, .int .i64 u1, .slice a12 ucs.length c12) (by simp)).1.c1
  have g10 := (HK17.out.bx (D13, .int .i64 u1, .slice a13 ucs.length c13) (by simp)).1.c0
  have g11 := (HK17.out.bx (D13, .int .i64 u1, .slice a13 ucs.length c13) (by simp)).1.c1
  have g20 := (HK17.out.bx (D17, .int .i64 v1, .slice a17 vcs.length c17) (by simp)).1.c0
  have g21 := (HK17.out.bx (D17, .int .i64 v1, .slice a17 vcs.length c17) (by simp)).1.c1
  have g30 := (HK17.out.bx (D18, .int .i64 v1, .slice a18 vcs.length c18) (by simp)).1.c0
  have g31 := (HK17.out.bx (D18, .int .i64 v1, .slice a18 vcs.length c18) (by simp)).1.c1
  have HEs : Hid (∀ x ∈ ([(u1, .slice a12 ucs.length c12, L12), (u1, .slice a13 ucs.length c13, L13), (v1, .slice a17 vcs.length c17, L17), (v1, .slice a18 vcs.length c18, L18)] : List (Int × Value × List Cls)), x.2.2.length ≤ 16777216 ∧ ∀ y ∈ x.2.2, y.2.length * 8 ≤ 140737488353280) := by
    have go : ∀ (q : Int) (v : Value) (L : List Cls) (cs : List (List Int)), L.map Prod.snd = cs → cs.length ≤ 1048576 → (∀ z ∈ cs, z.length * 8 ≤ 140737488351232) → L.length ≤ 16777216 ∧ ∀ y ∈ L, y.2.length * 8 ≤ 140737488353280 := fun q v L cs e h1 h2 => ⟨by have := congrArg List.length e; rw [List.length_map] at this; omega, fun y hy => by have := h2 y.2 (by rw [← e]; exact List.mem_map_of_mem hy); omega⟩
    intro x hx
    simp only [List.mem_cons, List.not_mem_nil, or_false] at hx
    rcases hx with rfl | rfl | rfl | rfl
    · exact go u1 (.bool true) _ _ HE12.out HU.out.2.1 HU.out.2.2
    · exact go u1 (.bool true) _ _ HE13.out HU.out.2.1 HU.out.2.2
    · exact go v1 (.bool true) _ _ HE17.out HV.out.2.1 HV.out.2.2
    · exact go v1 (.bool true) _ _ HE18.out HV.out.2.1 HV.out.2.2
  have HAp := (show Hid _ from HK17.out.tail.tail.apart (by simp) (fun x hx => (HEs.out x hx).1) (fun x hx => (HEs.out x hx).2))
  have HW : Hid (Below w.heap.size w w3) := HX3.out.bel
  clear HEs
  --D8
  go_wp2_with fail
  refine Calls.mono HAp.out ?_
  rintro e wf ⟨rfl, belf⟩
  go_wp2
  go_ret
  exact ⟨rfl, Below.step HW.out belf⟩
end Go.Proofs.Ytbnnoajpmmbpbaa.cnfKeepsUnder
