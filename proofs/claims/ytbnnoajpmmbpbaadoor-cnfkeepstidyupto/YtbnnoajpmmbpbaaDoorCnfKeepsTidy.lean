/-
  CnfKeepsTidy, walked.
  KEEP: set on app at below new trans refl start ap kept rd rds mono lt add none own nil put len pos setF setV putL putR other neV same_any row
-/
import Derived.Test.YtbnnoajpmmbpbaaDoorTidyW
import Derived.Test.YtbnnoajpmmbpbaaDoorRTidy
import Derived.Test.YtbnnoajpmmbpbaaDoorSameF
import Derived.Test.YtbnnoajpmmbpbaaDoorSmall
import Derived.Test.YtbnnoajpmmbpbaaDoorKpL
set_option linter.unusedSimpArgs false
set_option linter.unusedVariables false
namespace Go.Proofs.YtbnnoajpmmbpbaaDoor.cnfKeepsTidy
open Go Go.RowKit Go.Shelf

theorem ownf_form {B : Nat} {W : World} {s : Value} {css : List (List Int)} (h : OwnF B W s css) : ∃ a c, s = .slice a css.length c := by
  obtain ⟨L, h, rfl⟩ := h
  obtain ⟨a, c, e⟩ := row_form h.row
  exact ⟨a, c, by rw [e]; simp⟩
theorem td20 {css : List (List Int)} (h : css.length ≤ 1048576) (n : Int) : (tdF n css).2.1.length ≤ 1048576 := by
  have := tdK_len css css.length
  unfold tdF; split
  · simp only; omega
  · simp
theorem td8 (css : List (List Int)) (n : Int) : ∀ z ∈ (tdF n css).2.1, z.length * 8 ≤ 140737488351232 := by
  unfold tdF; split
  · intro z hz
    obtain ⟨c, rfl⟩ := tdK_tid css _ z hz
    exact tid8 c
  · simp
theorem td_small : tdF 2 smallF = (2, (tdF 2 smallF).2.1, 0) := by decide
theorem ng8 {css : List (List Int)} (h : ∀ z ∈ css, z.length * 8 ≤ 140737488351232) : ∀ z ∈ css.map (·.map ngv), z.length * 8 ≤ 140737488351232 := fun z hz => by
  obtain ⟨y, hy, rfl⟩ := List.mem_map.1 hz
  rw [List.length_map]; exact h y hy
/-- what a call of Tidy answers, on either side -/
def Says (P : Program) (f : FuncId) (s : Value) (n : Int) (W : World) (u1 : Int) (ucs : List (List Int)) (ue : Int) : Prop :=
  Calls P f #[.agg #[.int .i64 n, s]] W fun e w' => ∃ a c, e = .returned (.tuple #[.agg #[.int .i64 u1, .slice a ucs.length c], .int .i64 ue]) ∧ OwnF W.heap.size w' (.slice a ucs.length c) ucs ∧ Below W.heap.size W w'
theorem says_r {n : Int} {s : Value} {css : List (List Int)} {W : World} {u1 ue : Int} {ucs : List (List Int)} (hu : tdF n css = (u1, ucs, ue)) (hr : Rds W s css) : Says Tryd.prog 7 s n W u1 ucs ue := by
  refine (rTidyF_any n s css W hr).mono ?_
  rw [hu]
  rintro e w' ⟨s', rfl, ho, hb⟩
  obtain ⟨a, c, rfl⟩ := ownf_form ho
  exact ⟨a, c, rfl, ho, hb⟩
theorem says_p {n : Int} {s : Value} {css : List (List Int)} {W : World} {u1 ue : Int} {ucs : List (List Int)} (hu : tdF n css = (u1, ucs, ue)) (hr : Rds W s css) (ht : Tens W) : Says Tryd.prog 4 s n W u1 ucs ue := by
  refine (cnfTidy_any n s css W hr ht).mono ?_
  rw [hu]
  rintro e w' ⟨s', rfl, ho, hb⟩
  obtain ⟨a, c, rfl⟩ := ownf_form ho
  exact ⟨a, c, rfl, ho, hb⟩
/-- what is lent, as it was handed in -/
structure Ra (B S : Nat) (vi vw vr : Value) (css : List (List Int)) (L M : List Cls) (W : World) : Prop where
  k : Lk B W vw vr css L M
  x : Bx3 W S 30 vi vw vr
theorem Ra.below {B S : Nat} {vi vw vr : Value} {css : List (List Int)} {L M : List Cls} {W W' : World} (h : Ra B S vi vw vr css L M W) (hb : Below W.heap.size W W') : Ra B S vi vw vr css L M W' := ⟨h.k.below hb, h.x.below hb⟩
/-- what is lent, turned -/
structure Rb (B S : Nat) (vi vw vr : Value) (css : List (List Int)) (L : List Cls) (ws : List Value) (W : World) : Prop where
  l : Lr B W vw vr L ws []
  i : Rds W vi css
  x : Bx3 W S 30 vi vw vr
theorem Rb.below {B S : Nat} {vi vw vr : Value} {css : List (List Int)} {L : List Cls} {ws : List Value} {W W' : World} (h : Rb B S vi vw vr css L ws W) (hb : Below W.heap.size W W') : Rb B S vi vw vr css L ws W' := ⟨h.l.below hb, h.i.below hb, h.x.below hb⟩

set_option maxRecDepth 100000 in
set_option maxHeartbeats 12800000 in
theorem walk (n : Int) (s : Value) (css : List (List Int)) (w : World) (wf : (Lit.int .i64 n).wf = true) (hr : Rds w s css) (hbn : css.length ≤ 1048576) (ht : Tens w) :
    Calls Tryd.prog 3 #[.agg #[.int .i64 n, s]] w fun e w' => e = .returned (.bool true) ∧ Below w.heap.size w w' := by
  have H8 : Hid ((∀ z ∈ css, z.length * 8 ≤ 140737488351232) ∧ css.length ≤ 1048576) := ⟨rds_each hr, hbn⟩
  have HX : Hid (Bx w n s css (w.alloc (.cells #[.int .i64 n, s] 24))) := Bx.new hr _
  have HT : Hid (Tens (w.alloc (.cells #[.int .i64 n, s] 24))) := Tens.below ht (below_box _ _)
  obtain ⟨u1, ucs, ue, hU⟩ : ∃ u1 ucs ue, tdF n css = (u1, ucs, ue) := ⟨_, _, _, rfl⟩
  obtain ⟨v1, vcs, ve, hV⟩ : ∃ u1 ucs ue, tdF n (css.map (·.map ngv)) = (u1, ucs, ue) := ⟨_, _, _, rfl⟩
  have HU : Hid (tdF n css = (u1, ucs, ue) ∧ ucs.length ≤ 1048576 ∧ ∀ z ∈ ucs, z.length * 8 ≤ 140737488351232) := ⟨hU, by have := td20 hbn n; rw [hU] at this; exact this, by have := td8 css n; rw [hU] at this; exact this⟩
  have HV : Hid (tdF n (css.map (·.map ngv)) = (v1, vcs, ve) ∧ vcs.length ≤ 1048576 ∧ ∀ z ∈ vcs, z.length * 8 ≤ 140737488351232) := ⟨hV, by have := td20 (css := css.map (·.map ngv)) (by rw [List.length_map]; exact hbn) n; rw [hV] at this; exact this, by have := td8 (css.map (·.map ngv)) n; rw [hV] at this; exact this⟩
  clear hr hbn hU hV wf ht
  go_enter Tryd.func3, Tryd.ntmps3
  go_wp2_with fail
  generalize w.alloc (.cells #[.int .i64 n, s] 24) = W0 at *
  refine (small_any W0).mono ?_
  rintro e w1 ⟨s1, rfl, rs1, bel1⟩
  have HX1 : Hid (Bx w n s css w1) := HX.out.on bel1
  have HT1 : Hid (Tens w1) := Tens.below HT.out bel1
  have HS1 : Hid (Rds w1 s1 smallF) := rs1
  clear HX bel1 HT rs1
  go_wp2_with fail
  refine (cnfTidy_any 2 s1 smallF _ HS1.out HT1.out).mono ?_
  rw [td_small]
  rintro e w2 ⟨s2, rfl, own2, bel2⟩
  obtain ⟨a2, c2, hs2⟩ := ownf_form own2
  subst hs2
  have HX2 : Hid (Bx w n s css w2) := HX1.out.on bel2
  have HT2 : Hid (Tens w2) := Tens.below HT1.out bel2
  clear HX1 bel2 HS1 HT1 own2
  generalize (tdF 2 smallF).2.1.length = q2 at *
  have HX3 : Hid (Bx w n s css (w2.alloc (.cells #[.int .i64 2, .slice a2 q2 c2] 24))) := HX2.out.on (below_box _ _)
  have HT3 : Hid (Tens (w2.alloc (.cells #[.int .i64 2, .slice a2 q2 c2] 24))) := Tens.below HT2.out (below_box _ _)
  have c1 := HX3.out.c1
  clear HX2 HT2
  go_wp2_with fail
  generalize w2.alloc (.cells #[.int .i64 2, .slice a2 q2 c2] 24) = w3 at *
  have HTs : Hid (∀ W, Below w3.heap.size w3 W → Tens W) := fun W h => Tens.below HT3.out h
  clear HT3
  refine (lentRows_any s css w3 HX3.out.rd (by have := H8.out.2; omega)).mono ?_
  rintro e w4 ⟨vi, vw, vr, L, M, rfl, hq⟩
  obtain ⟨gw, cw, evw, evi, hcw, hcm⟩ := hq.vals
  subst evw; subst evi
  have HQ : Hid (Lq w3 w4 (.slice (some ⟨gw, 0, none⟩) css.length cw) (.slice (some ⟨gw, 0, none⟩) (css.length + 64) cw) vr css L M) := hq
  obtain ⟨ar, cr, er⟩ := row_form hq.l.r.row
  subst er
  have HCw : Hid (css.length + 64 ≤ cw ∧ cw ≤ maxLen) := ⟨hcw, hcm⟩
  clear hq c1 hcw hcm
  have HA : Hid (Ra w3.heap.size w4.heap.size (.slice (some ⟨gw, 0, none⟩) css.length cw) (.slice (some ⟨gw, 0, none⟩) (css.length + 64) cw) (.slice ar L.length cr) css L M (w4.alloc (.cells #[(.slice (some ⟨gw, 0, none⟩) css.length cw), (.slice (some ⟨gw, 0, none⟩) (css.length + 64) cw), (.slice ar L.length cr)] 30))) := ⟨HQ.out.k.below (below_box _ _), World.alloc_heap_new w4 _⟩
  have HK0 : Hid (Kx w3 w4.heap.size (w4.alloc (.cells #[(.slice (some ⟨gw, 0, none⟩) css.length cw), (.slice (some ⟨gw, 0, none⟩) (css.length + 64) cw), (.slice ar L.length cr)] 30)) (w4.alloc (.cells #[(.slice (some ⟨gw, 0, none⟩) css.length cw), (.slice (some ⟨gw, 0, none⟩) (css.length + 64) cw), (.slice ar L.length cr)] 30)) [] []) := Kx.start (Below.step HQ.out.b (below_box _ _)) HQ.out.b.size (below_box w4 _).size
  have HLo : Hid ((∀ k, Lown (.slice (some ⟨gw, 0, none⟩) (css.length + 64) cw) (.slice ar L.length cr) L k → w3.heap.size ≤ k ∧ k < w4.heap.size) ∧ L.length = css.length) := ⟨lown_le HQ.out.l, HQ.out.k.len.1⟩
  clear HQ
  have c0 := (HX3.out.on HK0.out.bel).c0
  have x0 : (w4.alloc (.cells #[(.slice (some ⟨gw, 0, none⟩) css.length cw), (.slice (some ⟨gw, 0, none⟩) (css.length + 64) cw), (.slice ar L.length cr)] 30)).cell? ⟨w4.heap.size, 0, none⟩ = some (.slice (some ⟨gw, 0, none⟩) css.length cw) := HA.out.x.c0
  have HK1 : Hid (Kx w3 w4.heap.size (w4.alloc (.cells #[(.slice (some ⟨gw, 0, none⟩) css.length cw), (.slice (some ⟨gw, 0, none⟩) (css.length + 64) cw), (.slice ar L.length cr)] 30)) ((w4.alloc (.cells #[(.slice (some ⟨gw, 0, none⟩) css.length cw), (.slice (some ⟨gw, 0, none⟩) (css.length + 64) cw), (.slice ar L.length cr)] 30)).alloc (.cells #[.int .i64 n, (.slice (some ⟨gw, 0, none⟩) css.length cw)] 24)) [(w4.heap.size + 1, .int .i64 n, (.slice (some ⟨gw, 0, none⟩) css.length cw))] []) := by have := HK0.out.box (.int .i64 n) (.slice (some ⟨gw, 0, none⟩) css.length cw); rw [World.size_alloc] at this; exact this
  have d0 := (HX3.out.on HK1.out.bel).c0
  have d1 := (HX3.out.on HK1.out.bel).c1
  go_wp2_with fail
  generalize (w4.alloc (.cells #[(.slice (some ⟨gw, 0, none⟩) css.length cw), (.slice (some ⟨gw, 0, none⟩) (css.length + 64) cw), (.slice ar L.length cr)] 30)).alloc (.cells #[.int .i64 n, (.slice (some ⟨gw, 0, none⟩) css.length cw)] 24) = w6 at *
  generalize w4.alloc (.cells #[(.slice (some ⟨gw, 0, none⟩) css.length cw), (.slice (some ⟨gw, 0, none⟩) (css.length + 64) cw), (.slice ar L.length cr)] 30) = wA at *
  refine Calls.mono (says_r HU.out.1 (HX3.out.on HK1.out.bel).rd) ?_
  rintro e w7 ⟨a7, c7, rfl, own7, bel7⟩
  obtain ⟨L7, e7, k7⟩ := HK1.out.ans bel7 own7 u1
  have HE7 : Hid (L7.map Prod.snd = ucs) := e7
  have HK2 : Hid (Kx w3 w4.heap.size wA (w7.alloc (.cells #[.int .i64 u1, .slice a7 ucs.length c7] 24)) [(w4.heap.size + 1, .int .i64 n, (.slice (some ⟨gw, 0, none⟩) css.length cw)), (w7.heap.size, .int .i64 u1, .slice a7 ucs.length c7)] [(u1, .slice a7 ucs.length c7, L7)]) := k7
  clear own7 bel7 k7 e7 HK0 HK1 c0 x0 d0 d1
  have d0 := (HX3.out.on HK2.out.bel).c0
  have d1 := (HX3.out.on HK2.out.bel).c1
  go_wp2_with fail
  generalize hw8 : (w7.alloc (.cells #[.int .i64 u1, .slice a7 ucs.length c7] 24)) = w8 at *
  refine Calls.mono (turned_any n s css w8 (HX3.out.on HK2.out.bel).rd (by have := H8.out.2; omega)) ?_
  rintro e w9 ⟨s9, rfl, own9, bel9⟩
  obtain ⟨a9, c9, hs9⟩ := ownf_form own9
  subst hs9
  have HK3 : Hid (Kx w3 w4.heap.size wA w9 [(w4.heap.size + 1, .int .i64 n, (.slice (some ⟨gw, 0, none⟩) css.length cw)), (w7.heap.size, .int .i64 u1, .slice a7 ucs.length c7)] [(u1, .slice a7 ucs.length c7, L7)]) := HK2.out.below bel9
  have h9 := own9.rds (by rw [List.length_map]; have := H8.out.2; omega) (ng8 H8.out.1)
  rw [List.length_map] at h9
  have HS9 : Hid (Rds w9 (.slice a9 css.length c9) (css.map (·.map ngv))) := h9
  clear own9 bel9 HK2 d0 d1 hw8 h9
  go_wp2_with fail
  refine Calls.mono (says_r HV.out.1 HS9.out) ?_
  rintro e w10 ⟨a10, c10, rfl, own10, bel10⟩
  obtain ⟨L10, e10, k10⟩ := HK3.out.ans bel10 own10 v1
  have HE10 : Hid (L10.map Prod.snd = vcs) := e10
  have HK4 : Hid (Kx w3 w4.heap.size wA (w10.alloc (.cells #[.int .i64 v1, .slice a10 vcs.length c10] 24)) [(w4.heap.size + 1, .int .i64 n, (.slice (some ⟨gw, 0, none⟩) css.length cw)), (w7.heap.size, .int .i64 u1, .slice a7 ucs.length c7), (w10.heap.size, .int .i64 v1, .slice a10 vcs.length c10)] [(u1, .slice a7 ucs.length c7, L7), (v1, .slice a10 vcs.length c10, L10)]) := k10
  clear own10 bel10 k10 e10 HK3 HS9
  have HRd : Hid (∀ W, Below wA.heap.size wA W → Rds W (.slice (some ⟨gw, 0, none⟩) css.length cw) css) := fun W hb => (HA.out.below hb).k.tn.rds (by have := HCw.out.1; omega) HCw.out.2 (by simp) (by have := H8.out.2; omega) H8.out.1
  have d0 := (HK4.out.bx (w4.heap.size + 1, .int .i64 n, (.slice (some ⟨gw, 0, none⟩) css.length cw)) (by simp)).1.c0
  have d1 := (HK4.out.bx (w4.heap.size + 1, .int .i64 n, (.slice (some ⟨gw, 0, none⟩) css.length cw)) (by simp)).1.c1
  go_wp2_with fail
  generalize (w10.alloc (.cells #[.int .i64 v1, .slice a10 vcs.length c10] 24)) = w10b at *
  refine Calls.mono (says_p HU.out.1 (HRd.out _ HK4.out.ref) (HTs.out _ HK4.out.bel)) ?_
  rintro e w12 ⟨a12, c12, rfl, own12, bel12⟩
  obtain ⟨L12, e12, k12⟩ := HK4.out.ans bel12 own12 u1
  have HE12 : Hid (L12.map Prod.snd = ucs) := e12
  have HK5 : Hid (Kx w3 w4.heap.size wA (w12.alloc (.cells #[.int .i64 u1, .slice a12 ucs.length c12] 24)) [(w4.heap.size + 1, .int .i64 n, (.slice (some ⟨gw, 0, none⟩) css.length cw)), (w7.heap.size, .int .i64 u1, .slice a7 ucs.length c7), (w10.heap.size, .int .i64 v1, .slice a10 vcs.length c10), (w12.heap.size, .int .i64 u1, .slice a12 ucs.length c12)] [(u1, .slice a7 ucs.length c7, L7), (v1, .slice a10 vcs.length c10, L10), (u1, .slice a12 ucs.length c12, L12)]) := k12
  clear own12 bel12 k12 e12 HK4 d0 d1
  have d0 := (HK5.out.bx (w4.heap.size + 1, .int .i64 n, (.slice (some ⟨gw, 0, none⟩) css.length cw)) (by simp)).1.c0
  have d1 := (HK5.out.bx (w4.heap.size + 1, .int .i64 n, (.slice (some ⟨gw, 0, none⟩) css.length cw)) (by simp)).1.c1
  go_wp2_with fail
  generalize (w12.alloc (.cells #[.int .i64 u1, .slice a12 ucs.length c12] 24)) = w12b at *
  refine Calls.mono (says_p HU.out.1 (HRd.out _ HK5.out.ref) (HTs.out _ HK5.out.bel)) ?_
  rintro e w13 ⟨a13, c13, rfl, own13, bel13⟩
  obtain ⟨L13, e13, k13⟩ := HK5.out.ans bel13 own13 u1
  have HE13 : Hid (L13.map Prod.snd = ucs) := e13
  have HK6 : Hid (Kx w3 w4.heap.size wA (w13.alloc (.cells #[.int .i64 u1, .slice a13 ucs.length c13] 24)) [(w4.heap.size + 1, .int .i64 n, (.slice (some ⟨gw, 0, none⟩) css.length cw)), (w7.heap.size, .int .i64 u1, .slice a7 ucs.length c7), (w10.heap.size, .int .i64 v1, .slice a10 vcs.length c10), (w12.heap.size, .int .i64 u1, .slice a12 ucs.length c12), (w13.heap.size, .int .i64 u1, .slice a13 ucs.length c13)] [(u1, .slice a7 ucs.length c7, L7), (v1, .slice a10 vcs.length c10, L10), (u1, .slice a12 ucs.length c12, L12), (u1, .slice a13 ucs.length c13, L13)]) := k13
  clear own13 bel13 k13 e13 HK5 d0 d1
  have f1 := (HX3.out.on HK6.out.bel).c1
  have x0 := (HA.out.below HK6.out.ref).x.c0
  have x1 := (HA.out.below HK6.out.ref).x.c1
  have x2 := (HA.out.below HK6.out.ref).x.c2
  go_wp2_with fail
  generalize (w13.alloc (.cells #[.int .i64 u1, .slice a13 ucs.length c13] 24)) = w13b at *
  refine Calls.mono (keptRows_any w3.heap.size (.slice (some ⟨gw, 0, none⟩) css.length cw) (.slice (some ⟨gw, 0, none⟩) (css.length + 64) cw) (.slice ar L.length cr) s css L M w13b (HA.out.below HK6.out.ref).k (HX3.out.on HK6.out.bel).rd (by have := H8.out.2; omega)) ?_
  rintro e w15 ⟨rfl, bel15⟩
  have HK8 : Hid (Kx w3 w4.heap.size wA w15 [(w4.heap.size + 1, .int .i64 n, (.slice (some ⟨gw, 0, none⟩) css.length cw)), (w7.heap.size, .int .i64 u1, .slice a7 ucs.length c7), (w10.heap.size, .int .i64 v1, .slice a10 vcs.length c10), (w12.heap.size, .int .i64 u1, .slice a12 ucs.length c12), (w13.heap.size, .int .i64 u1, .slice a13 ucs.length c13)] [(u1, .slice a7 ucs.length c7, L7), (v1, .slice a10 vcs.length c10, L10), (u1, .slice a12 ucs.length c12, L12), (u1, .slice a13 ucs.length c13, L13)]) := HK6.out.below bel15
  clear bel15 HK6 f1 x0 x1 x2
  have x0 := (HA.out.below HK8.out.ref).x.c0
  go_wp2_with fail
  refine Calls.mono (turn_any w3.heap.size (some ⟨gw, 0, none⟩) cw css m64 L w15 (HA.out.below HK8.out.ref).k.tn (by have := HCw.out.1; omega) (by have := H8.out.2; omega) (fun z hz => by have := H8.out.1 z hz; omega)) ?_
  rintro e w16 ⟨⟨v16, rfl⟩, hf16, tn16⟩
  have HQk : Hid (∀ k, TnB L k → w3.heap.size ≤ k ∧ k < w4.heap.size) := fun k ⟨x, hx, e⟩ => HLo.out.1 k (.inr (.inr ⟨x, hx, e⟩))
  have HK9 : Hid (Kx w3 w4.heap.size w16 w16 [(w4.heap.size + 1, .int .i64 n, (.slice (some ⟨gw, 0, none⟩) css.length cw)), (w7.heap.size, .int .i64 u1, .slice a7 ucs.length c7), (w10.heap.size, .int .i64 v1, .slice a10 vcs.length c10), (w12.heap.size, .int .i64 u1, .slice a12 ucs.length c12), (w13.heap.size, .int .i64 u1, .slice a13 ucs.length c13)] [(u1, .slice a7 ucs.length c7, L7), (v1, .slice a10 vcs.length c10, L10), (u1, .slice a12 ucs.length c12, L12), (u1, .slice a13 ucs.length c13, L13)]) := HK8.out.out hf16 HQk.out
  have HB : Hid (Rb w3.heap.size w4.heap.size (.slice (some ⟨gw, 0, none⟩) css.length cw) (.slice (some ⟨gw, 0, none⟩) (css.length + 64) cw) (.slice ar L.length cr) (css.map (·.map ngv)) (L.map (tnC m64)) (L.map cutV ++ M.map Prod.fst) w16) := by
    have h := HA.out.below HK8.out.ref
    refine ⟨h.k.l.turned hf16 tn16, ?_, bx3_out h.x hf16 (fun k hk => (HQk.out k hk).2)⟩
    have h5 := tn16.rds (c := cw) (by rw [List.length_map]; have := HCw.out.1; omega) HCw.out.2 (by simp) (by rw [List.length_map]; have := H8.out.2; omega) (ng8 H8.out.1)
    rw [List.length_map] at h5
    exact h5
  have HNl : Hid ((L.map cutV ++ M.map Prod.fst).length = css.length + 64) := by
    have h := HA.out.k.len
    show _ = _
    rw [List.length_append, List.length_map, List.length_map, h.1, h.2]
  clear hf16 tn16 HK8 x0 HRd
  have HRd : Hid (∀ W, Below w16.heap.size w16 W → Rds W (.slice (some ⟨gw, 0, none⟩) css.length cw) (css.map (·.map ngv))) := fun W hb => (HB.out.below hb).i
  --D4
  have d0 := (HK9.out.bx (w4.heap.size + 1, .int .i64 n, (.slice (some ⟨gw, 0, none⟩) css.length cw)) (by simp)).1.c0
  have d1 := (HK9.out.bx (w4.heap.size + 1, .int .i64 n, (.slice (some ⟨gw, 0, none⟩) css.length cw)) (by simp)).1.c1
  go_wp2_with fail
  refine Calls.mono (says_p HV.out.1 (HRd.out _ HK9.out.ref) (HTs.out _ HK9.out.bel)) ?_
  rintro e w17 ⟨a17, c17, rfl, own17, bel17⟩
  obtain ⟨L17, e17, k17⟩ := HK9.out.ans bel17 own17 v1
  have HE17 : Hid (L17.map Prod.snd = vcs) := e17
  have HK10 : Hid (Kx w3 w4.heap.size w16 (w17.alloc (.cells #[.int .i64 v1, .slice a17 vcs.length c17] 24)) [(w4.heap.size + 1, .int .i64 n, (.slice (some ⟨gw, 0, none⟩) css.length cw)), (w7.heap.size, .int .i64 u1, .slice a7 ucs.length c7), (w10.heap.size, .int .i64 v1, .slice a10 vcs.length c10), (w12.heap.size, .int .i64 u1, .slice a12 ucs.length c12), (w13.heap.size, .int .i64 u1, .slice a13 ucs.length c13), (w17.heap.size, .int .i64 v1, .slice a17 vcs.length c17)] [(u1, .slice a7 ucs.length c7, L7), (v1, .slice a10 vcs.length c10, L10), (u1, .slice a12 ucs.length c12, L12), (u1, .slice a13 ucs.length c13, L13), (v1, .slice a17 vcs.length c17, L17)]) := k17
  clear own17 bel17 k17 e17 HK9 d0 d1
  have d0 := (HK10.out.bx (w4.heap.size + 1, .int .i64 n, (.slice (some ⟨gw, 0, none⟩) css.length cw)) (by simp)).1.c0
  have d1 := (HK10.out.bx (w4.heap.size + 1, .int .i64 n, (.slice (some ⟨gw, 0, none⟩) css.length cw)) (by simp)).1.c1
  go_wp2_with fail
  generalize (w17.alloc (.cells #[.int .i64 v1, .slice a17 vcs.length c17] 24)) = w17b at *
  refine Calls.mono (says_p HV.out.1 (HRd.out _ HK10.out.ref) (HTs.out _ HK10.out.bel)) ?_
  rintro e w18 ⟨a18, c18, rfl, own18, bel18⟩
  obtain ⟨L18, e18, k18⟩ := HK10.out.ans bel18 own18 v1
  have HE18 : Hid (L18.map Prod.snd = vcs) := e18
  have HK11 : Hid (Kx w3 w4.heap.size w16 (w18.alloc (.cells #[.int .i64 v1, .slice a18 vcs.length c18] 24)) [(w4.heap.size + 1, .int .i64 n, (.slice (some ⟨gw, 0, none⟩) css.length cw)), (w7.heap.size, .int .i64 u1, .slice a7 ucs.length c7), (w10.heap.size, .int .i64 v1, .slice a10 vcs.length c10), (w12.heap.size, .int .i64 u1, .slice a12 ucs.length c12), (w13.heap.size, .int .i64 u1, .slice a13 ucs.length c13), (w17.heap.size, .int .i64 v1, .slice a17 vcs.length c17), (w18.heap.size, .int .i64 v1, .slice a18 vcs.length c18)] [(u1, .slice a7 ucs.length c7, L7), (v1, .slice a10 vcs.length c10, L10), (u1, .slice a12 ucs.length c12, L12), (u1, .slice a13 ucs.length c13, L13), (v1, .slice a17 vcs.length c17, L17), (v1, .slice a18 vcs.length c18, L18)]) := k18
  clear own18 bel18 k18 e18 HK10 d0 d1
  --D5
  have x0 := (HB.out.below HK11.out.ref).x.c0
  have x1 := (HB.out.below HK11.out.ref).x.c1
  have x2 := (HB.out.below HK11.out.ref).x.c2
  have hLm : (L.map (tnC m64)).length = L.length := List.length_map _
  go_wp2_with fail
  generalize (w18.alloc (.cells #[.int .i64 v1, .slice a18 vcs.length c18] 24)) = w18b at *
  refine Calls.mono (overRows_any w3.heap.size (.slice (some ⟨gw, 0, none⟩) css.length cw) (.slice ar L.length cr) gw cw (css.length + 64) (L.map (tnC m64)) _ [] w18b (HB.out.below HK11.out.ref).l HNl.out (by have := H8.out.2; omega) (by rw [hLm, HLo.out.2]; have := H8.out.2; omega) (fun x hx => by
    obtain ⟨y, hy, rfl⟩ := List.mem_map.1 hx
    have h1 := HA.out.k.ls
    have h2 : y.2 ∈ css.map (· ++ m64) := by rw [← h1]; exact List.mem_map_of_mem hy
    obtain ⟨z, hz, e⟩ := List.mem_map.1 h2
    have h3 := H8.out.1 z hz
    show ((y.2.take (y.2.length - m64.length)).map ngv ++ m64).length ≤ _
    rw [← e]
    simp only [List.length_append, m64_len, List.length_map, List.length_take]
    omega) (Nat.le_trans HK11.out.lo HK11.out.sz)) ?_
  rintro e w20 ⟨rfl, hf20, -⟩
  have HK13 : Hid (Kx w3 w4.heap.size w20 w20 [(w4.heap.size + 1, .int .i64 n, (.slice (some ⟨gw, 0, none⟩) css.length cw)), (w7.heap.size, .int .i64 u1, .slice a7 ucs.length c7), (w10.heap.size, .int .i64 v1, .slice a10 vcs.length c10), (w12.heap.size, .int .i64 u1, .slice a12 ucs.length c12), (w13.heap.size, .int .i64 u1, .slice a13 ucs.length c13), (w17.heap.size, .int .i64 v1, .slice a17 vcs.length c17), (w18.heap.size, .int .i64 v1, .slice a18 vcs.length c18)] [(u1, .slice a7 ucs.length c7, L7), (v1, .slice a10 vcs.length c10, L10), (u1, .slice a12 ucs.length c12, L12), (u1, .slice a13 ucs.length c13, L13), (v1, .slice a17 vcs.length c17, L17), (v1, .slice a18 vcs.length c18, L18)]) := HK11.out.out hf20 (fun k hk => HLo.out.1 k (lown_turned hk))
  clear hf20 HK11 x0 x1 x2 hLm HRd HB HA HNl
  have HUr : Hid (∀ W a c (L0 : List Cls), OwnR w4.heap.size W (.slice a ucs.length c) L0 → L0.map Prod.snd = ucs → Rds W (.slice a ucs.length c) ucs) := fun W a c L0 h e => OwnF.rds ⟨L0, h, e⟩ (by have := HU.out.2.1; omega) HU.out.2.2
  have HVr : Hid (∀ W a c (L0 : List Cls), OwnR w4.heap.size W (.slice a vcs.length c) L0 → L0.map Prod.snd = vcs → Rds W (.slice a vcs.length c) vcs) := fun W a c L0 h e => OwnF.rds ⟨L0, h, e⟩ (by have := HV.out.2.1; omega) HV.out.2.2
  have g00 := (HK13.out.bx (w12.heap.size, .int .i64 u1, .slice a12 ucs.length c12) (by simp)).1.c0
  have g01 := (HK13.out.bx (w12.heap.size, .int .i64 u1, .slice a12 ucs.length c12) (by simp)).1.c1
  have g10 := (HK13.out.bx (w7.heap.size, .int .i64 u1, .slice a7 ucs.length c7) (by simp)).1.c0
  have g11 := (HK13.out.bx (w7.heap.size, .int .i64 u1, .slice a7 ucs.length c7) (by simp)).1.c1
  go_wp2_with fail
  refine Calls.mono (sameFormula_self u1 _ _ ucs w20 (HUr.out _ _ _ L12 (HK13.out.own (u1, .slice a12 ucs.length c12, L12) (by simp)) HE12.out) (HUr.out _ _ _ L7 (HK13.out.own (u1, .slice a7 ucs.length c7, L7) (by simp)) HE7.out)) ?_
  rintro e w21 ⟨rfl, bel21⟩
  have HK14 : Hid (Kx w3 w4.heap.size w20 w21 [(w4.heap.size + 1, .int .i64 n, (.slice (some ⟨gw, 0, none⟩) css.length cw)), (w7.heap.size, .int .i64 u1, .slice a7 ucs.length c7), (w10.heap.size, .int .i64 v1, .slice a10 vcs.length c10), (w12.heap.size, .int .i64 u1, .slice a12 ucs.length c12), (w13.heap.size, .int .i64 u1, .slice a13 ucs.length c13), (w17.heap.size, .int .i64 v1, .slice a17 vcs.length c17), (w18.heap.size, .int .i64 v1, .slice a18 vcs.length c18)] [(u1, .slice a7 ucs.length c7, L7), (v1, .slice a10 vcs.length c10, L10), (u1, .slice a12 ucs.length c12, L12), (u1, .slice a13 ucs.length c13, L13), (v1, .slice a17 vcs.length c17, L17), (v1, .slice a18 vcs.length c18, L18)]) := HK13.out.below bel21
  clear bel21 HK13
  clear g00 g01 g10 g11
  have g00 := (HK14.out.bx (w13.heap.size, .int .i64 u1, .slice a13 ucs.length c13) (by simp)).1.c0
  have g01 := (HK14.out.bx (w13.heap.size, .int .i64 u1, .slice a13 ucs.length c13) (by simp)).1.c1
  have g10 := (HK14.out.bx (w7.heap.size, .int .i64 u1, .slice a7 ucs.length c7) (by simp)).1.c0
  have g11 := (HK14.out.bx (w7.heap.size, .int .i64 u1, .slice a7 ucs.length c7) (by simp)).1.c1
  go_wp2_with fail
  refine Calls.mono (sameFormula_self u1 _ _ ucs w21 (HUr.out _ _ _ L13 (HK14.out.own (u1, .slice a13 ucs.length c13, L13) (by simp)) HE13.out) (HUr.out _ _ _ L7 (HK14.out.own (u1, .slice a7 ucs.length c7, L7) (by simp)) HE7.out)) ?_
  rintro e w22 ⟨rfl, bel22⟩
  have HK15 : Hid (Kx w3 w4.heap.size w20 w22 [(w4.heap.size + 1, .int .i64 n, (.slice (some ⟨gw, 0, none⟩) css.length cw)), (w7.heap.size, .int .i64 u1, .slice a7 ucs.length c7), (w10.heap.size, .int .i64 v1, .slice a10 vcs.length c10), (w12.heap.size, .int .i64 u1, .slice a12 ucs.length c12), (w13.heap.size, .int .i64 u1, .slice a13 ucs.length c13), (w17.heap.size, .int .i64 v1, .slice a17 vcs.length c17), (w18.heap.size, .int .i64 v1, .slice a18 vcs.length c18)] [(u1, .slice a7 ucs.length c7, L7), (v1, .slice a10 vcs.length c10, L10), (u1, .slice a12 ucs.length c12, L12), (u1, .slice a13 ucs.length c13, L13), (v1, .slice a17 vcs.length c17, L17), (v1, .slice a18 vcs.length c18, L18)]) := HK14.out.below bel22
  clear bel22 HK14
  clear g00 g01 g10 g11
  have g00 := (HK15.out.bx (w17.heap.size, .int .i64 v1, .slice a17 vcs.length c17) (by simp)).1.c0
  have g01 := (HK15.out.bx (w17.heap.size, .int .i64 v1, .slice a17 vcs.length c17) (by simp)).1.c1
  have g10 := (HK15.out.bx (w10.heap.size, .int .i64 v1, .slice a10 vcs.length c10) (by simp)).1.c0
  have g11 := (HK15.out.bx (w10.heap.size, .int .i64 v1, .slice a10 vcs.length c10) (by simp)).1.c1
  go_wp2_with fail
  refine Calls.mono (sameFormula_self v1 _ _ vcs w22 (HVr.out _ _ _ L17 (HK15.out.own (v1, .slice a17 vcs.length c17, L17) (by simp)) HE17.out) (HVr.out _ _ _ L10 (HK15.out.own (v1, .slice a10 vcs.length c10, L10) (by simp)) HE10.out)) ?_
  rintro e w23 ⟨rfl, bel23⟩
  have HK16 : Hid (Kx w3 w4.heap.size w20 w23 [(w4.heap.size + 1, .int .i64 n, (.slice (some ⟨gw, 0, none⟩) css.length cw)), (w7.heap.size, .int .i64 u1, .slice a7 ucs.length c7), (w10.heap.size, .int .i64 v1, .slice a10 vcs.length c10), (w12.heap.size, .int .i64 u1, .slice a12 ucs.length c12), (w13.heap.size, .int .i64 u1, .slice a13 ucs.length c13), (w17.heap.size, .int .i64 v1, .slice a17 vcs.length c17), (w18.heap.size, .int .i64 v1, .slice a18 vcs.length c18)] [(u1, .slice a7 ucs.length c7, L7), (v1, .slice a10 vcs.length c10, L10), (u1, .slice a12 ucs.length c12, L12), (u1, .slice a13 ucs.length c13, L13), (v1, .slice a17 vcs.length c17, L17), (v1, .slice a18 vcs.length c18, L18)]) := HK15.out.below bel23
  clear bel23 HK15
  clear g00 g01 g10 g11
  have g00 := (HK16.out.bx (w18.heap.size, .int .i64 v1, .slice a18 vcs.length c18) (by simp)).1.c0
  have g01 := (HK16.out.bx (w18.heap.size, .int .i64 v1, .slice a18 vcs.length c18) (by simp)).1.c1
  have g10 := (HK16.out.bx (w10.heap.size, .int .i64 v1, .slice a10 vcs.length c10) (by simp)).1.c0
  have g11 := (HK16.out.bx (w10.heap.size, .int .i64 v1, .slice a10 vcs.length c10) (by simp)).1.c1
  go_wp2_with fail
  refine Calls.mono (sameFormula_self v1 _ _ vcs w23 (HVr.out _ _ _ L18 (HK16.out.own (v1, .slice a18 vcs.length c18, L18) (by simp)) HE18.out) (HVr.out _ _ _ L10 (HK16.out.own (v1, .slice a10 vcs.length c10, L10) (by simp)) HE10.out)) ?_
  rintro e w24 ⟨rfl, bel24⟩
  have HK17 : Hid (Kx w3 w4.heap.size w20 w24 [(w4.heap.size + 1, .int .i64 n, (.slice (some ⟨gw, 0, none⟩) css.length cw)), (w7.heap.size, .int .i64 u1, .slice a7 ucs.length c7), (w10.heap.size, .int .i64 v1, .slice a10 vcs.length c10), (w12.heap.size, .int .i64 u1, .slice a12 ucs.length c12), (w13.heap.size, .int .i64 u1, .slice a13 ucs.length c13), (w17.heap.size, .int .i64 v1, .slice a17 vcs.length c17), (w18.heap.size, .int .i64 v1, .slice a18 vcs.length c18)] [(u1, .slice a7 ucs.length c7, L7), (v1, .slice a10 vcs.length c10, L10), (u1, .slice a12 ucs.length c12, L12), (u1, .slice a13 ucs.length c13, L13), (v1, .slice a17 vcs.length c17, L17), (v1, .slice a18 vcs.length c18, L18)]) := HK16.out.below bel24
  clear bel24 HK16
  clear g00 g01 g10 g11
  have g00 := (HK17.out.bx (w12.heap.size, .int .i64 u1, .slice a12 ucs.length c12) (by simp)).1.c0
  have g01 := (HK17.out.bx (w12.heap.size, .int .i64 u1, .slice a12 ucs.length c12) (by simp)).1.c1
  have g10 := (HK17.out.bx (w13.heap.size, .int .i64 u1, .slice a13 ucs.length c13) (by simp)).1.c0
  have g11 := (HK17.out.bx (w13.heap.size, .int .i64 u1, .slice a13 ucs.length c13) (by simp)).1.c1
  have g20 := (HK17.out.bx (w17.heap.size, .int .i64 v1, .slice a17 vcs.length c17) (by simp)).1.c0
  have g21 := (HK17.out.bx (w17.heap.size, .int .i64 v1, .slice a17 vcs.length c17) (by simp)).1.c1
  have g30 := (HK17.out.bx (w18.heap.size, .int .i64 v1, .slice a18 vcs.length c18) (by simp)).1.c0
  have g31 := (HK17.out.bx (w18.heap.size, .int .i64 v1, .slice a18 vcs.length c18) (by simp)).1.c1
  have HEs : Hid (∀ x ∈ ([(u1, .slice a12 ucs.length c12, L12), (u1, .slice a13 ucs.length c13, L13), (v1, .slice a17 vcs.length c17, L17), (v1, .slice a18 vcs.length c18, L18)] : List (Int × Value × List Cls)), x.2.2.length ≤ 16777216 ∧ ∀ y ∈ x.2.2, y.2.length * 8 ≤ 140737488353280) := by
    have go : ∀ (q : Int) (v : Value) (L : List Cls) (cs : List (List Int)), L.map Prod.snd = cs → cs.length ≤ 1048576 → (∀ z ∈ cs, z.length * 8 ≤ 140737488351232) → L.length ≤ 16777216 ∧ ∀ y ∈ L, y.2.length * 8 ≤ 140737488353280 := fun q v L cs e h1 h2 => ⟨by have := congrArg List.length e; rw [List.length_map] at this; omega, fun y hy => by have := h2 y.2 (by rw [← e]; exact List.mem_map_of_mem hy); omega⟩
    intro x hx
    simp only [List.mem_cons, List.not_mem_nil, or_false] at hx
    rcases hx with rfl | rfl | rfl | rfl
    · exact go u1 (.bool true) _ _ HE12.out HU.out.2.1 HU.out.2.2
    · exact go u1 (.bool true) _ _ HE13.out HU.out.2.1 HU.out.2.2
    · exact go v1 (.bool true) _ _ HE17.out HV.out.2.1 HV.out.2.2
    · exact go v1 (.bool true) _ _ HE18.out HV.out.2.1 HV.out.2.2
  have HAp := (show Hid _ from HK17.out.tail.tail.apart (by simp) (fun x hx => (HEs.out x hx).1) (fun x hx => (HEs.out x hx).2))
  have HW : Hid (Below w.heap.size w w3) := HX3.out.bel
  clear HEs
  --D8
  go_wp2_with fail
  refine Calls.mono HAp.out ?_
  rintro e wf ⟨rfl, belf⟩
  go_wp2
  go_ret
  exact ⟨rfl, Below.step HW.out belf⟩
end Go.Proofs.YtbnnoajpmmbpbaaDoor.cnfKeepsTidy
