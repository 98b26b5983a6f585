/-
  CnfMeans, walked.
-/
import Derived.Test.YtefjpcleknchlabDoorMeansH
import Derived.Test.YtefjpcleknchlabDoorTidyW
import Derived.Test.YtefjpcleknchlabDoorJoinW
import Derived.Deep.RegionWith
import Derived.Deep.CutRange
import Derived.Deep.RegionHeld
set_option linter.unusedSimpArgs false
set_option linter.unusedVariables false
namespace Go.Proofs.YtefjpcleknchlabDoor.cnfMeans
open Go.RowKit

/-- the two formulas' boxes, the list and the model, in a world that has grown -/
structure Mx (w : World) (n : Int) (s : Value) (css : List (List Int)) (m : Int) (t : Value) (dss : List (List Int)) (vp : Value) (zs : List Int) (vb : Value) (ms : List Bool) (b3 b4 : Nat) (wr : World) : Prop where
  bel : Below w.heap.size w wr
  f0 : wr.cell? ⟨b3, 0, none⟩ = some (.int .i64 n)
  f1 : wr.cell? ⟨b3, 1, none⟩ = some s
  g0 : wr.cell? ⟨b4, 0, none⟩ = some (.int .i64 m)
  g1 : wr.cell? ⟨b4, 1, none⟩ = some t
  rf : Rds wr s css
  rg : Rds wr t dss
  rp : Rd wr vp zs
  rm : RdB wr vb ms
  tens : Tens wr
theorem Mx.on {w : World} {n : Int} {s : Value} {css : List (List Int)} {m : Int} {t : Value} {dss : List (List Int)} {vp : Value} {zs : List Int} {vb : Value} {ms : List Bool} {b3 b4 : Nat} {wr w' : World} (h : Mx w n s css m t dss vp zs vb ms b3 b4 wr) (hb : Below wr.heap.size wr w') : Mx w n s css m t dss vp zs vb ms b3 b4 w' :=
  ⟨h.bel.trans (hb.mono h.bel.size), (hb.cell (p := ⟨b3, 0, none⟩) (World.block_lt_of_cell? wr _ h.f0)).trans h.f0, (hb.cell (p := ⟨b3, 1, none⟩) (World.block_lt_of_cell? wr _ h.f1)).trans h.f1, (hb.cell (p := ⟨b4, 0, none⟩) (World.block_lt_of_cell? wr _ h.g0)).trans h.g0, (hb.cell (p := ⟨b4, 1, none⟩) (World.block_lt_of_cell? wr _ h.g1)).trans h.g1,
    h.rf.below hb, h.rg.below hb, h.rp.below hb, h.rm.below hb, Tens.below h.tens hb⟩
theorem box_at (w : World) (cs : Array Value) (t : TypeId) (j : Nat) (v : Value) (h : cs[j]? = some v) : (w.alloc (.cells cs t)).cell? ⟨w.heap.size, j, none⟩ = some v := by
  rw [World.cell?_alloc_at _ _ _ _ rfl]; exact h

/-- the two boxes, laid one behind the other -/
theorem two_boxes (w1 : World) (x y u v : Value) (t : TypeId) : Below w1.heap.size w1 (((w1.alloc (.cells #[x, y] t)).alloc (.cells #[u, v] t)).drew) ∧ (((w1.alloc (.cells #[x, y] t)).alloc (.cells #[u, v] t)).drew).cell? ⟨w1.heap.size, 0, none⟩ = some x ∧ (((w1.alloc (.cells #[x, y] t)).alloc (.cells #[u, v] t)).drew).cell? ⟨w1.heap.size, 1, none⟩ = some y ∧ (((w1.alloc (.cells #[x, y] t)).alloc (.cells #[u, v] t)).drew).cell? ⟨w1.heap.size + 1, 0, none⟩ = some u ∧ (((w1.alloc (.cells #[x, y] t)).alloc (.cells #[u, v] t)).drew).cell? ⟨w1.heap.size + 1, 1, none⟩ = some v := by
  have e : (w1.alloc (.cells #[x, y] t)).heap.size = w1.heap.size + 1 := by simp
  have b1 := below_box w1 (.cells #[x, y] t)
  have p0 := box0 w1 x y t
  have p1 := box1 w1 x y t
  generalize w1.alloc (.cells #[x, y] t) = A at *
  have b2 := below_box A (.cells #[u, v] t)
  have r0 := box0 A u v t
  have r1 := box1 A u v t
  rw [e] at r0 r1
  have s2 : (A.alloc (.cells #[u, v] t)).heap.size = w1.heap.size + 1 + 1 := by simp [e]
  have k0 := (b2.cell (p := ⟨w1.heap.size, 0, none⟩) (by show w1.heap.size < _; omega)).trans p0
  have k1 := (b2.cell (p := ⟨w1.heap.size, 1, none⟩) (by show w1.heap.size < _; omega)).trans p1
  have b := Below.step b1 b2
  generalize A.alloc (.cells #[u, v] t) = B at *
  have d : ∀ j v, B.cell? j = some v → B.drew.cell? j = some v := fun j v h => ((Below.refl B.heap.size B).drew.cell (p := j) (World.block_lt_of_cell? B _ h)).trans h
  exact ⟨Below.step b (Below.refl _ _).drew, d _ _ k0, d _ _ k1, d _ _ r0, d _ _ r1⟩
theorem ownf_form {B : Nat} {W : World} {s : Value} {css : List (List Int)} (h : OwnF B W s css) : ∃ a c, s = .slice a css.length c := by
  obtain ⟨L, h, rfl⟩ := h
  obtain ⟨a, c, e⟩ := row_form h.row
  exact ⟨a, c, by rw [e]; simp⟩
theorem td24 {css : List (List Int)} (h : css.length * 24 ≤ 140737488351232) (n : Int) : (tdF n css).2.1.length * 24 ≤ 140737488351232 := by
  have := tdK_len css css.length
  unfold tdF; split
  · simp only; omega
  · simp
theorem td8 (css : List (List Int)) (n : Int) : ∀ z ∈ (tdF n css).2.1, z.length * 8 ≤ 140737488351232 := by
  unfold tdF; split
  · intro z hz
    obtain ⟨c, rfl⟩ := tdK_tid css _ z hz
    exact tid8 c
  · simp
theorem jn24 {css dss : List (List Int)} (h : (css.length + dss.length) * 24 ≤ 140737488351232) (n m : Int) : (jnF n css m dss).2.1.length * 24 ≤ 140737488351232 := by
  unfold jnF; split
  · simpa using h
  · simp
theorem jn8 {css dss : List (List Int)} (h1 : ∀ z ∈ css, z.length * 8 ≤ 140737488351232) (h2 : ∀ z ∈ dss, z.length * 8 ≤ 140737488351232) (n m : Int) : ∀ z ∈ (jnF n css m dss).2.1, z.length * 8 ≤ 140737488351232 := by
  unfold jnF; split
  · intro z hz
    rcases List.mem_append.1 hz with h | h
    · exact h1 z h
    · exact h2 z h
  · simp
theorem un24 {css : List (List Int)} (h : css.length * 24 ≤ 140737488351232) (n : Int) (part : List Int) : (unF n css part).2.1.length * 24 ≤ 140737488351232 := by
  have := List.length_filterMap_le (rems part) css
  unfold unF; split
  · simp
  · split
    · simp
    · simp only; omega
theorem un8 {css : List (List Int)} (h : ∀ z ∈ css, z.length * 8 ≤ 140737488351232) (n : Int) (part : List Int) : ∀ z ∈ (unF n css part).2.1, z.length * 8 ≤ 140737488351232 := by
  unfold unF; split
  · simp
  · split
    · simp
    · intro z hz
      obtain ⟨c, hc, e⟩ := List.mem_filterMap.1 hz
      unfold rems at e
      split at e
      · cases e
      · cases e
        have := h c hc
        have := remL_len part c
        omega

set_option maxHeartbeats 12800000 in
theorem walk (n : Int) (s : Value) (css : List (List Int)) (m : Int) (t : Value) (dss : List (List Int)) (vp : Value) (zs : List Int) (vb : Value) (ms : List Bool) (w : World) (wn : (Lit.int .i64 n).wf = true) (hr : Rds w s css) (wm : (Lit.int .i64 m).wf = true) (hr2 : Rds w t dss) (hp : Rd w vp zs) (hm : RdB w vb ms) (hsum : css.length + dss.length ≤ 1048576) (ht : Tens w) :
    Calls Tryd.prog 5 #[.agg #[.int .i64 n, s, .int .i64 m, t, vp, vb]] w fun e w' => e = .returned (.bool true) ∧ Below w.heap.size w w' := by
  obtain ⟨sa, sc, hs0, _⟩ := hr.form
  obtain ⟨ta, tc, ht0, _⟩ := hr2.form
  obtain ⟨pa, pc, hp0, _⟩ := hp.form
  obtain ⟨ba, bc, hb0, _⟩ := hm.form
  subst hs0 ht0 hp0 hb0
  have HR : Hid (∀ W, Below w.heap.size w W → Rds W (.slice sa css.length sc) css ∧ Rds W (.slice ta dss.length tc) dss ∧ Rd W (.slice pa zs.length pc) zs ∧ RdB W (.slice ba ms.length bc) ms ∧ Tens W) := fun W h => ⟨hr.below h, hr2.below h, hp.below h, hm.below h, Tens.below ht h⟩
  have HSUM : Hid (css.length + dss.length ≤ 1048576) := hsum
  have HE8 : Hid (∀ z ∈ css, z.length * 8 ≤ 140737488351232) := rds_each hr
  have HD8 : Hid (∀ z ∈ dss, z.length * 8 ≤ 140737488351232) := rds_each hr2
  have HL : Hid (css.length * 24 ≤ 140737488351232) := hr.len
  have HG : Hid (∀ W, Below (w.heap.size + 1) (w.alloc (.cells #[.int .i64 n, .slice sa css.length sc, .int .i64 m, .slice ta dss.length tc, .slice pa zs.length pc, .slice ba ms.length bc] 39)) W → Below w.heap.size w W ∧ W.cell? ⟨w.heap.size, 0, none⟩ = some (.int .i64 n) ∧ W.cell? ⟨w.heap.size, 1, none⟩ = some (.slice sa css.length sc) ∧ W.cell? ⟨w.heap.size, 2, none⟩ = some (.int .i64 m) ∧ W.cell? ⟨w.heap.size, 3, none⟩ = some (.slice ta dss.length tc) ∧ W.cell? ⟨w.heap.size, 4, none⟩ = some (.slice pa zs.length pc) ∧ W.cell? ⟨w.heap.size, 5, none⟩ = some (.slice ba ms.length bc)) := by
    intro W h
    have k : ∀ j v, (#[.int .i64 n, .slice sa css.length sc, .int .i64 m, .slice ta dss.length tc, .slice pa zs.length pc, .slice ba ms.length bc] : Array Value)[j]? = some v → W.cell? ⟨w.heap.size, j, none⟩ = some v := fun j v hj => (h.cell (p := ⟨w.heap.size, j, none⟩) (Nat.lt_succ_self _)).trans (box_at _ _ _ _ _ hj)
    exact ⟨(below_box _ _).trans (h.mono (by omega)), k 0 _ rfl, k 1 _ rfl, k 2 _ rfl, k 3 _ rfl, k 4 _ rfl, k 5 _ rfl⟩
  clear hr hr2 hp hm ht wn wm hsum
  go_enter Tryd.func5, Tryd.ntmps5
  go_wp2_with fail
  refine (awake_any _).mono ?_
  rintro e w1 ⟨rfl, bel1⟩
  simp only [World.size_alloc] at bel1
  obtain ⟨hb1, q0, q1, q2, q3, q4, q5⟩ := HG.out w1 bel1
  have B1 : Hid (Below w.heap.size w w1) := hb1
  clear bel1 HG hb1
  have hlt : w.heap.size < w1.heap.size := World.block_lt_of_cell? w1 ⟨w.heap.size, 0, none⟩ q0
  go_upto_region 3 with fail
  go_cut [3, 4, 5, 6] from 14 to 21 (fun p3 p4 p5 p6 wx => ∃ b3 b4 : Nat, p3 = .pointer (some ⟨b3, 0, none⟩) ∧ p4 = .pointer (some ⟨b4, 0, none⟩) ∧ p5 = .slice pa zs.length pc ∧ p6 = .slice ba ms.length bc ∧ Mx w n (.slice sa css.length sc) css m (.slice ta dss.length tc) dss (.slice pa zs.length pc) zs (.slice ba ms.length bc) ms b3 b4 wx)
  case first =>
    go_region
    · go_wp2_with fail
      go_meet
      obtain ⟨b, x0, x1, x2, x3⟩ := two_boxes w1 (.int .i64 n) (.slice sa css.length sc) (.int .i64 m) (.slice ta dss.length tc) 27
      obtain ⟨k0, k1, k2, k3, k4⟩ := HR.out _ (Below.step B1.out b)
      exact ⟨_, _, rfl, rfl, rfl, rfl, Below.step B1.out b, x0, x1, x2, x3, k0, k1, k2, k3, k4⟩
    · go_wp2_with fail
      go_meet
      obtain ⟨b, x0, x1, x2, x3⟩ := two_boxes w1 (.int .i64 m) (.slice ta dss.length tc) (.int .i64 n) (.slice sa css.length sc) 27
      obtain ⟨k0, k1, k2, k3, k4⟩ := HR.out _ (Below.step B1.out b)
      exact ⟨_, _, rfl, rfl, rfl, rfl, Below.step B1.out b, x2, x3, x0, x1, k0, k1, k2, k3, k4⟩
  case rest =>
  obtain ⟨b3, b4, rfl, rfl, rfl, rfl, mx⟩ := hcut
  clear q0 q1 q2 q3 q4 q5 B1 HR hlt
  generalize wc = w2 at *
  have M2 : Hid (Mx w n (.slice sa css.length sc) css m (.slice ta dss.length tc) dss (.slice pa zs.length pc) zs (.slice ba ms.length bc) ms b3 b4 w2) := mx
  have f0 := mx.f0
  have f1 := mx.f1
  clear mx
  cases hf : frm n css
  · go_wp2_with fail
    refine (cnfFormed_any n _ css w2 M2.out.rf).mono ?_
    rw [hf]
    rintro e w3 ⟨rfl, bel3⟩
    have M3 : Hid (Mx w n (.slice sa css.length sc) css m (.slice ta dss.length tc) dss (.slice pa zs.length pc) zs (.slice ba ms.length bc) ms b3 b4 w3) := M2.out.on bel3
    clear M2 bel3
    go_wp2
    go_ret
    exact ⟨rfl, M3.out.bel⟩
  have HF : Hid (frm n css = true) := hf
  go_wp2_with fail
  refine (cnfFormed_any n _ css w2 M2.out.rf).mono ?_
  rw [hf]
  rintro e w3 ⟨rfl, bel3⟩
  have M3 : Hid (Mx w n (.slice sa css.length sc) css m (.slice ta dss.length tc) dss (.slice pa zs.length pc) zs (.slice ba ms.length bc) ms b3 b4 w3) := M2.out.on bel3
  clear M2 bel3 hf
  have f0 := M3.out.f0
  have f1 := M3.out.f1
  have TD : Hid (tdF n css = (n, (tdF n css).2.1, 0)) := by unfold tdF Hid; rw [HF.out]; rfl
  obtain ⟨q, hq⟩ : ∃ q : Bool, (mdl n css ms && satT ms css) = q := ⟨_, rfl⟩
  have HQ : Hid ((mdl n css ms && satT ms css) = q) := hq
  clear hq
  have SQ : Hid ((mdl n (tdF n css).2.1 ms && satT ms (tdF n css).2.1) = q) := by
    have := means_tidy (ms := ms) HF.out
    rw [show (tdF n css).1 = n from congrArg Prod.fst TD.out] at this
    exact this.trans HQ.out
  have U24 : Hid ((tdF n css).2.1.length * 24 ≤ 140737488351232) := td24 HL.out n
  have U8 : Hid (∀ z ∈ (tdF n css).2.1, z.length * 8 ≤ 140737488351232) := td8 css n
  go_wp2_with fail
  refine (cnfTidy_any n _ css w3 M3.out.rf M3.out.tens).mono ?_
  rw [TD.out]
  simp only
  clear TD
  generalize (tdF n css).2.1 = ucs at *
  rintro e w4 ⟨s4, rfl, own4, bel4⟩
  obtain ⟨a4, c4, hs4⟩ := ownf_form own4
  subst hs4
  have HO4 : Hid (Rds w4 (.slice a4 ucs.length c4) ucs) := own4.rds U24.out U8.out
  have M5 : Hid (Mx w n (.slice sa css.length sc) css m (.slice ta dss.length tc) dss (.slice pa zs.length pc) zs (.slice ba ms.length bc) ms b3 b4 (w4.alloc (.cells #[.int .i64 n, .slice a4 ucs.length c4] 27))) := (M3.out.on bel4).on (below_box _ _)
  have HB5 : Hid (Bx w4 n (.slice a4 ucs.length c4) ucs (w4.alloc (.cells #[.int .i64 n, .slice a4 ucs.length c4] 27))) := Bx.new HO4.out _
  clear M3 bel4 own4 HO4 U24 U8 f0 f1
  go_upto_region 7 with fail
  generalize w4.alloc (.cells #[.int .i64 n, .slice a4 ucs.length c4] 27) = W5 at *
  have HS : Hid (∀ W', Below W5.heap.size W5 W' → Below W5.heap.size W5 W' ∧ W'.cell? ⟨w4.heap.size, 0, none⟩ = some (.int .i64 n) ∧ W'.cell? ⟨w4.heap.size, 1, none⟩ = some (.slice a4 ucs.length c4) ∧ W'.cell? ⟨b3, 0, none⟩ = some (.int .i64 n) ∧ W'.cell? ⟨b3, 1, none⟩ = some (.slice sa css.length sc)) := fun W' h => ⟨h, (HB5.out.on h).c0, (HB5.out.on h).c1, (M5.out.on h).f0, (M5.out.on h).f1⟩
  have HCT : Hid (∀ W, Below W5.heap.size W5 W → Calls Tryd.prog 18 #[.agg #[.int .i64 n, .slice a4 ucs.length c4], .slice ba ms.length bc] W fun e w' => e = .returned (.bool q) ∧ Below W.heap.size W w') := fun W h => by
    have := cnfSatisfies_any n _ _ ucs ms W (HB5.out.on h).rd (M5.out.on h).rm
    rwa [SQ.out] at this
  have HCF : Hid (∀ W, Below W5.heap.size W5 W → Calls Tryd.prog 18 #[.agg #[.int .i64 n, .slice sa css.length sc], .slice ba ms.length bc] W fun e w' => e = .returned (.bool q) ∧ Below W.heap.size W w') := fun W h => by
    have := cnfSatisfies_any n _ _ css ms W (M5.out.on h).rf (M5.out.on h).rm
    rwa [HQ.out] at this
  go_cut [40] from 30 to 40 (fun t wx => t = .bool false ∧ Below W5.heap.size W5 wx)
  case first =>
    clear M5 HB5 SQ HQ HF HL HSUM
    cases q
    all_goals
      go_region_held (fun W' => Below W5.heap.size W5 W' ∧ W'.cell? ⟨w4.heap.size, 0, none⟩ = some (.int .i64 n) ∧ W'.cell? ⟨w4.heap.size, 1, none⟩ = some (.slice a4 ucs.length c4) ∧ W'.cell? ⟨b3, 0, none⟩ = some (.int .i64 n) ∧ W'.cell? ⟨b3, 1, none⟩ = some (.slice sa css.length sc)) (first | exact HS.out _ (Below.refl _ _).drew | exact HS.out _ bT | exact HS.out _ bF) (first
        | (go_at_call_has 18 (Value.agg #[Value.int IntKind.i64 n, Value.slice a4 ucs.length c4]); refine (HCT.out _ (by first | exact bF | exact (Below.refl _ _).drew)).mono ?_; rintro e wT ⟨rfl, belT⟩; have bT : Below W5.heap.size W5 wT := Below.step (by first | exact bF | exact (Below.refl _ _).drew) belT)
        | (go_at_call_has 18 (Value.agg #[Value.int IntKind.i64 n, Value.slice sa css.length sc]); refine (HCF.out _ (by first | exact bT | exact (Below.refl _ _).drew)).mono ?_; rintro e wF ⟨rfl, belF⟩; have bF : Below W5.heap.size W5 wF := Below.step (by first | exact bT | exact (Below.refl _ _).drew) belF))
      all_goals
        go_wp2_with fail
        go_meet
        exact ⟨rfl, by first | exact bF | exact bT⟩
  case rest =>
  obtain ⟨rfl, bel6⟩ := hcut
  generalize wc = w6 at *
  have M6 : Hid (Mx w n (.slice sa css.length sc) css m (.slice ta dss.length tc) dss (.slice pa zs.length pc) zs (.slice ba ms.length bc) ms b3 b4 w6) := M5.out.on bel6
  clear M5 HB5 SQ HS HCT HCF bel6
  generalize w4.heap.size = b7 at *
  have f0 := M6.out.f0
  have f1 := M6.out.f1
  have g0 := M6.out.g0
  have g1 := M6.out.g1
  go_upto_region 9 with fail
  go_cut [49] from 41 to 49 (fun t wx => ∃ b : Bool, t = .bool b ∧ (b = true → frm m dss = true ∧ m = n) ∧ Below w6.heap.size w6 wx)
  case first =>
    cases hg : frm m dss
    · go_wp2_with fail
      refine (cnfFormed_any m _ dss w6 M6.out.rg).mono ?_
      rw [hg]
      rintro e w7 ⟨rfl, bel7⟩
      go_wp2_with fail
      go_meet
      exact ⟨false, rfl, (fun e => by cases e), bel7⟩
    · have HG : Hid (frm m dss = true) := hg
      go_wp2_with fail
      refine (cnfFormed_any m _ dss w6 M6.out.rg).mono ?_
      rw [hg]
      rintro e w7 ⟨rfl, bel7⟩
      clear hg
      have M7 : Hid (Mx w n (.slice sa css.length sc) css m (.slice ta dss.length tc) dss (.slice pa zs.length pc) zs (.slice ba ms.length bc) ms b3 b4 w7) := M6.out.on bel7
      have f0 := M7.out.f0
      have g0 := M7.out.g0
      go_wp2_with fail
      go_meet
      exact ⟨m == n, rfl, (fun e => ⟨HG.out, by simpa using e⟩), bel7⟩
  case rest =>
  obtain ⟨b, rfl, hb, bel7⟩ := hcut
  generalize wc = w7 at *
  have M7 : Hid (Mx w n (.slice sa css.length sc) css m (.slice ta dss.length tc) dss (.slice pa zs.length pc) zs (.slice ba ms.length bc) ms b3 b4 w7) := M6.out.on bel7
  have HB : Hid (b = true → frm m dss = true ∧ m = n) := hb
  clear M6 bel7 hb f0 f1 g0 g1
  have f0 := M7.out.f0
  have f1 := M7.out.f1
  have g0 := M7.out.g0
  have g1 := M7.out.g1
  go_upto_if 49 with fail
  go_cut [9, 10] from 50 to 71 (fun _ _ wx => Below w7.heap.size w7 wx)
  case first =>
    cases b
    · go_wp2_with fail
      go_meet
      exact Below.refl _ _
    obtain ⟨hg, hmn⟩ := HB.out rfl
    have HG : Hid (frm m dss = true) := hg
    have HN : Hid (m = n) := hmn
    clear hg hmn HB
    have JN : Hid (jnF n css m dss = (n, (jnF n css m dss).2.1, 0)) := by
      unfold jnF Hid; rw [HF.out, HG.out, HN.out]; simp
    obtain ⟨qg, hqg⟩ : ∃ q : Bool, (mdl m dss ms && satT ms dss) = q := ⟨_, rfl⟩
    have HQG : Hid ((mdl m dss ms && satT ms dss) = qg) := hqg
    clear hqg
    have SJ : Hid ((mdl n (jnF n css m dss).2.1 ms && satT ms (jnF n css m dss).2.1) = (q && qg)) := by
      have e := HN.out
      have hg' := HG.out
      have hq' := HQG.out
      rw [e] at hg' hq' ⊢
      have := means_join (ms := ms) HF.out hg'
      have j := JN.out
      rw [e] at j
      rw [show (jnF n css n dss).1 = n from congrArg Prod.fst j] at this
      rw [HQ.out, hq'] at this
      exact this
    have V24 : Hid ((jnF n css m dss).2.1.length * 24 ≤ 140737488351232) := jn24 (by have := HSUM.out; omega) n m
    have V8 : Hid (∀ z ∈ (jnF n css m dss).2.1, z.length * 8 ≤ 140737488351232) := jn8 HE8.out HD8.out n m
    go_wp2_with fail
    refine (cnfJoin_any n _ css m _ dss w7 M7.out.rf M7.out.rg (by have := HSUM.out; omega)).mono ?_
    rw [JN.out]
    simp only
    clear JN
    generalize (jnF n css m dss).2.1 = jcs at *
    rintro e w8 ⟨s8, rfl, own8, bel8⟩
    obtain ⟨a8, c8, hs8⟩ := ownf_form own8
    subst hs8
    have HO8 : Hid (Rds w8 (.slice a8 jcs.length c8) jcs) := own8.rds V24.out V8.out
    have M9 : Hid (Mx w n (.slice sa css.length sc) css m (.slice ta dss.length tc) dss (.slice pa zs.length pc) zs (.slice ba ms.length bc) ms b3 b4 (w8.alloc (.cells #[.int .i64 n, .slice a8 jcs.length c8] 27))) := (M7.out.on bel8).on (below_box _ _)
    have HB9 : Hid (Bx w8 n (.slice a8 jcs.length c8) jcs (w8.alloc (.cells #[.int .i64 n, .slice a8 jcs.length c8] 27))) := Bx.new HO8.out _
    have B79 : Hid (Below w7.heap.size w7 (w8.alloc (.cells #[.int .i64 n, .slice a8 jcs.length c8] 27))) := Below.step bel8 (below_box _ _)
    clear M7 bel8 own8 HO8 V24 V8 f0 f1 g0 g1
    go_upto_region 11 with fail
    generalize w8.alloc (.cells #[.int .i64 n, .slice a8 jcs.length c8] 27) = W9 at *
    have HS : Hid (∀ W', Below W9.heap.size W9 W' → Below W9.heap.size W9 W' ∧ W'.cell? ⟨w8.heap.size, 0, none⟩ = some (.int .i64 n) ∧ W'.cell? ⟨w8.heap.size, 1, none⟩ = some (.slice a8 jcs.length c8) ∧ W'.cell? ⟨b3, 0, none⟩ = some (.int .i64 n) ∧ W'.cell? ⟨b3, 1, none⟩ = some (.slice sa css.length sc)) := fun W' h => ⟨h, (HB9.out.on h).c0, (HB9.out.on h).c1, (M9.out.on h).f0, (M9.out.on h).f1⟩
    have HCT : Hid (∀ W, Below W9.heap.size W9 W → Calls Tryd.prog 18 #[.agg #[.int .i64 n, .slice a8 jcs.length c8], .slice ba ms.length bc] W fun e w' => e = .returned (.bool (q && qg)) ∧ Below W.heap.size W w') := fun W h => by
      have := cnfSatisfies_any n _ _ jcs ms W ((HB9.out.on h).rd) (M9.out.on h).rm
      rwa [SJ.out] at this
    have HCF : Hid (∀ W, Below W9.heap.size W9 W → Calls Tryd.prog 18 #[.agg #[.int .i64 n, .slice sa css.length sc], .slice ba ms.length bc] W fun e w' => e = .returned (.bool q) ∧ Below W.heap.size W w') := fun W h => by
      have := cnfSatisfies_any n _ _ css ms W ((M9.out.on h).rf) (M9.out.on h).rm
      rwa [HQ.out] at this
    have HCG : Hid (∀ W, Below W9.heap.size W9 W → Calls Tryd.prog 18 #[.agg #[.int .i64 m, .slice ta dss.length tc], .slice ba ms.length bc] W fun e w' => e = .returned (.bool qg) ∧ Below W.heap.size W w') := fun W h => by
      have := cnfSatisfies_any m _ _ dss ms W ((M9.out.on h).rg) (M9.out.on h).rm
      rwa [HQG.out] at this
    have HA : Hid (∀ W', Below W9.heap.size W9 W' → W'.cell? ⟨w8.heap.size, 0, none⟩ = some (.int .i64 n) ∧ W'.cell? ⟨w8.heap.size, 1, none⟩ = some (.slice a8 jcs.length c8) ∧ W'.cell? ⟨b3, 0, none⟩ = some (.int .i64 n) ∧ W'.cell? ⟨b3, 1, none⟩ = some (.slice sa css.length sc) ∧ W'.cell? ⟨b4, 0, none⟩ = some (.int .i64 m) ∧ W'.cell? ⟨b4, 1, none⟩ = some (.slice ta dss.length tc)) := fun W' h => ⟨(HB9.out.on h).c0, (HB9.out.on h).c1, (M9.out.on h).f0, (M9.out.on h).f1, (M9.out.on h).g0, (M9.out.on h).g1⟩
    go_cut [71] from 56 to 71 (fun t wx => t = .bool false ∧ Below W9.heap.size W9 wx)
    case first =>
      clear M9 HB9 SJ HQ HQG HF HL HSUM HG HN B79 HE8 HD8
      obtain ⟨k0, k1, k2, k3, k4, k5⟩ := HA.out W9 (Below.refl _ _)
      cases q <;> cases qg
      all_goals
        first
        | (
          go_region_law (first
            | (go_simp; go_at_call_has 18 (Value.agg #[Value.int IntKind.i64 n, Value.slice a8 jcs.length c8]); refine (HCT.out _ (by first | exact bG | exact bF | exact (Below.refl _ _).drew | exact Below.refl _ _)).mono ?_; rintro e wT ⟨rfl, belT⟩; have bT : Below W9.heap.size W9 wT := Below.step (by first | exact bG | exact bF | exact (Below.refl _ _).drew | exact Below.refl _ _) belT; have h0T := (HA.out _ bT).1; have h1T := (HA.out _ bT).2.1; have f0T := (HA.out _ bT).2.2.1; have f1T := (HA.out _ bT).2.2.2.1; have g0T := (HA.out _ bT).2.2.2.2.1; have g1T := (HA.out _ bT).2.2.2.2.2; dsimp only)
            | (go_simp; go_at_call_has 18 (Value.agg #[Value.int IntKind.i64 n, Value.slice sa css.length sc]); refine (HCF.out _ (by first | exact bG | exact bT | exact (Below.refl _ _).drew | exact Below.refl _ _)).mono ?_; rintro e wF ⟨rfl, belF⟩; have bF : Below W9.heap.size W9 wF := Below.step (by first | exact bG | exact bT | exact (Below.refl _ _).drew | exact Below.refl _ _) belF; have h0F := (HA.out _ bF).1; have h1F := (HA.out _ bF).2.1; have f0F := (HA.out _ bF).2.2.1; have f1F := (HA.out _ bF).2.2.2.1; have g0F := (HA.out _ bF).2.2.2.2.1; have g1F := (HA.out _ bF).2.2.2.2.2; dsimp only)
            | (go_simp; go_at_call_has 18 (Value.agg #[Value.int IntKind.i64 m, Value.slice ta dss.length tc]); refine (HCG.out _ (by first | exact bF | exact bT | exact (Below.refl _ _).drew | exact Below.refl _ _)).mono ?_; rintro e wG ⟨rfl, belG⟩; have bG : Below W9.heap.size W9 wG := Below.step (by first | exact bF | exact bT | exact (Below.refl _ _).drew | exact Below.refl _ _) belG; have h0G := (HA.out _ bG).1; have h1G := (HA.out _ bG).2.1; have f0G := (HA.out _ bG).2.2.1; have f1G := (HA.out _ bG).2.2.2.1; have g0G := (HA.out _ bG).2.2.2.2.1; have g1G := (HA.out _ bG).2.2.2.2.2; dsimp only)))
        | fail
        all_goals
          go_wp2_with fail
          go_meet
          exact ⟨rfl, by first | exact bG | exact bF | exact bT⟩
    case rest =>
    obtain ⟨rfl, bel10⟩ := hcut
    go_wp2_with fail
    go_meet
    exact Below.step B79.out bel10
  case rest =>
  generalize wc = w8 at *
  have M8 : Hid (Mx w n (.slice sa css.length sc) css m (.slice ta dss.length tc) dss (.slice pa zs.length pc) zs (.slice ba ms.length bc) ms b3 b4 w8) := M7.out.on hcut
  clear M7 hcut HB f0 f1 g0 g1 HSUM HD8
  have f0 := M8.out.f0
  have f1 := M8.out.f1
  have HNM : Hid (n ≤ 1048576) := by
    have := HF.out
    unfold frm at this
    simp only [Bool.and_eq_true, decide_eq_true_eq] at this
    exact this.1.2
  by_cases hlen : (ms.length : Int) = n
  case neg =>
    have d1 : ((ms.length : Int) != n) = true := by simpa using hlen
    have d2 : ((ms.length : Int) == n) = false := by simpa using hlen
    go_wp2
    go_ret
    exact ⟨rfl, M8.out.bel⟩
  have HLN : Hid ((ms.length : Int) = n) := hlen
  have d1 : ((ms.length : Int) != n) = false := by simpa using hlen
  have d2 : ((ms.length : Int) == n) = true := by simpa using hlen
  have HM1 : Hid (mdl n css ms = true) := by
    unfold mdl Hid; rw [HF.out]; simpa using hlen
  clear hlen
  go_wp2_with fail
  refine (holds_any _ _ zs ms w8 M8.out.rp M8.out.rm (by have := HNM.out; have := HLN.out; omega)).mono ?_
  rintro e w9 ⟨rfl, hw9⟩
  obtain rfl := hw9.symm
  cases hh : hld ms zs
  · go_wp2
    go_ret
    exact ⟨rfl, M8.out.bel⟩
  obtain ⟨u1, u2⟩ := means_under HM1.out hh
  have UN : Hid (unF n css zs = ((unF n css zs).1, (unF n css zs).2.1, 0)) := by
    unfold Hid
    rw [← u1]
  have SU : Hid ((mdl (unF n css zs).1 (unF n css zs).2.1 ms && satT ms (unF n css zs).2.1) = q) := u2.trans HQ.out
  have U24 : Hid ((unF n css zs).2.1.length * 24 ≤ 140737488351232) := un24 HL.out n zs
  have U8 : Hid (∀ z ∈ (unF n css zs).2.1, z.length * 8 ≤ 140737488351232) := un8 HE8.out n zs
  clear u1 u2 hh
  go_wp2_with fail
  refine (under_any n _ _ css zs w8 M8.out.rf M8.out.rp).mono ?_
  rw [UN.out]
  simp only
  clear UN
  generalize (unF n css zs).2.1 = ncs at *
  generalize (unF n css zs).1 = N1 at *
  rintro e w10 ⟨s10, rfl, own10, bel10⟩
  obtain ⟨a10, c10, hs10⟩ := ownf_form own10
  subst hs10
  have HO10 : Hid (Rds w10 (.slice a10 ncs.length c10) ncs) := own10.rds U24.out U8.out
  have M11 : Hid (Mx w n (.slice sa css.length sc) css m (.slice ta dss.length tc) dss (.slice pa zs.length pc) zs (.slice ba ms.length bc) ms b3 b4 (w10.alloc (.cells #[.int .i64 N1, .slice a10 ncs.length c10] 27))) := (M8.out.on bel10).on (below_box _ _)
  have HB11 : Hid (Bx w10 N1 (.slice a10 ncs.length c10) ncs (w10.alloc (.cells #[.int .i64 N1, .slice a10 ncs.length c10] 27))) := Bx.new HO10.out _
  clear M8 bel10 own10 HO10 U24 U8 f0 f1
  go_upto_region 16 with fail
  generalize w10.alloc (.cells #[.int .i64 N1, .slice a10 ncs.length c10] 27) = W11 at *
  have HS : Hid (∀ W', Below W11.heap.size W11 W' → Below W11.heap.size W11 W' ∧ W'.cell? ⟨w10.heap.size, 0, none⟩ = some (.int .i64 N1) ∧ W'.cell? ⟨w10.heap.size, 1, none⟩ = some (.slice a10 ncs.length c10) ∧ W'.cell? ⟨b3, 0, none⟩ = some (.int .i64 n) ∧ W'.cell? ⟨b3, 1, none⟩ = some (.slice sa css.length sc)) := fun W' h => ⟨h, (HB11.out.on h).c0, (HB11.out.on h).c1, (M11.out.on h).f0, (M11.out.on h).f1⟩
  have HCT : Hid (∀ W, Below W11.heap.size W11 W → Calls Tryd.prog 18 #[.agg #[.int .i64 N1, .slice a10 ncs.length c10], .slice ba ms.length bc] W fun e w' => e = .returned (.bool q) ∧ Below W.heap.size W w') := fun W h => by
    have := cnfSatisfies_any N1 _ _ ncs ms W (HB11.out.on h).rd (M11.out.on h).rm
    rwa [SU.out] at this
  have HCF : Hid (∀ W, Below W11.heap.size W11 W → Calls Tryd.prog 18 #[.agg #[.int .i64 n, .slice sa css.length sc], .slice ba ms.length bc] W fun e w' => e = .returned (.bool q) ∧ Below W.heap.size W w') := fun W h => by
    have := cnfSatisfies_any n _ _ css ms W (M11.out.on h).rf (M11.out.on h).rm
    rwa [HQ.out] at this
  have BW : Hid (∀ W, Below W11.heap.size W11 W → Below w.heap.size w W) := fun W h => (M11.out.on h).bel
  clear M11 HB11 SU HQ HF HL HM1 HE8 HLN HNM
  cases q
  all_goals
    go_region_held (fun W' => Below W11.heap.size W11 W' ∧ W'.cell? ⟨w10.heap.size, 0, none⟩ = some (.int .i64 N1) ∧ W'.cell? ⟨w10.heap.size, 1, none⟩ = some (.slice a10 ncs.length c10) ∧ W'.cell? ⟨b3, 0, none⟩ = some (.int .i64 n) ∧ W'.cell? ⟨b3, 1, none⟩ = some (.slice sa css.length sc)) (first | exact HS.out _ (Below.refl _ _).drew | exact HS.out _ bT | exact HS.out _ bF) (first
      | (go_at_call_has 18 (Value.agg #[Value.int IntKind.i64 N1, Value.slice a10 ncs.length c10]); refine (HCT.out _ (by first | exact bF | exact (Below.refl _ _).drew)).mono ?_; rintro e wT ⟨rfl, belT⟩; have bT : Below W11.heap.size W11 wT := Below.step (by first | exact bF | exact (Below.refl _ _).drew) belT)
      | (go_at_call_has 18 (Value.agg #[Value.int IntKind.i64 n, Value.slice sa css.length sc]); refine (HCF.out _ (by first | exact bT | exact (Below.refl _ _).drew)).mono ?_; rintro e wF ⟨rfl, belF⟩; have bF : Below W11.heap.size W11 wF := Below.step (by first | exact bT | exact (Below.refl _ _).drew) belF))
    all_goals
      go_wp2
      go_ret
      exact ⟨rfl, BW.out _ (by first | exact bF | exact bT)⟩

end Go.Proofs.YtefjpcleknchlabDoor.cnfMeans
