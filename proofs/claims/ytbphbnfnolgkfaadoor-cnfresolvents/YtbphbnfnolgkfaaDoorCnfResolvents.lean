/-
  CnfResolvents, walked.
-/
import Derived.Test.YtbphbnfnolgkfaaDoorResP
import Derived.Test.YtbphbnfnolgkfaaDoorSmall
import Derived.Deep.CutRange
import Derived.Deep.RegionHeld
import Derived.Deep.RegionWith
import Derived.Sort.AtCall
set_option linter.unusedSimpArgs false
set_option linter.unusedVariables false
namespace Go.Proofs.YtbphbnfnolgkfaaDoor.cnfResolvents
open Go Go.RowKit Go.Shelf

attribute [local go_sem] Oper.semAt_some

theorem box_at (w : World) (cs : Array Value) (t : TypeId) (j : Nat) (v : Value) (h : cs[j]? = some v) : (w.alloc (.cells cs t)).cell? ⟨w.heap.size, j, none⟩ = some v := by rw [World.cell?_alloc_at _ _ _ _ rfl]; exact h
/-- the small formula and its clause, laid in new memory -/
theorem laid_two (A : World) : Rds ((((A.alloc (.cells #[.int .i64 1, .int .i64 2] 3)).alloc (.cells #[.int .i64 (-1), .int .i64 2] 3)).alloc (.cells #[.slice (some ⟨A.heap.size, 0, none⟩) 2 2, .slice (some ⟨A.heap.size + 1, 0, none⟩) 2 2] 31)).alloc (.cells #[.int .i64 2] 3)) (.slice (some ⟨A.heap.size + 1 + 1, 0, none⟩) 2 2) [[1, 2], [-1, 2]] ∧
    Rd ((((A.alloc (.cells #[.int .i64 1, .int .i64 2] 3)).alloc (.cells #[.int .i64 (-1), .int .i64 2] 3)).alloc (.cells #[.slice (some ⟨A.heap.size, 0, none⟩) 2 2, .slice (some ⟨A.heap.size + 1, 0, none⟩) 2 2] 31)).alloc (.cells #[.int .i64 2] 3)) (.slice (some ⟨A.heap.size + 1 + 1 + 1, 0, none⟩) 1 1) [2] ∧
    Below A.heap.size A ((((A.alloc (.cells #[.int .i64 1, .int .i64 2] 3)).alloc (.cells #[.int .i64 (-1), .int .i64 2] 3)).alloc (.cells #[.slice (some ⟨A.heap.size, 0, none⟩) 2 2, .slice (some ⟨A.heap.size + 1, 0, none⟩) 2 2] 31)).alloc (.cells #[.int .i64 2] 3)) := by
  have h1 := ((ownTwo A 1 2).rd (by simp)).below (below_box _ (.cells #[.int .i64 (-1), .int .i64 2] 3))
  have h2 := (ownTwo (A.alloc (.cells #[.int .i64 1, .int .i64 2] 3)) (-1) 2).rd (by simp)
  have h3 := rds_two h1 h2 31
  have h4 := (ownOne (((A.alloc (.cells #[.int .i64 1, .int .i64 2] 3)).alloc (.cells #[.int .i64 (-1), .int .i64 2] 3)).alloc (.cells #[.slice (some ⟨A.heap.size, 0, none⟩) 2 2, .slice (some ⟨A.heap.size + 1, 0, none⟩) 2 2] 31)) 2).rd (by simp)
  have h5 := h3.below (below_box _ (.cells #[.int .i64 2] 3))
  simp only [World.size_alloc] at h4 h5
  exact ⟨h5, h4, Below.step (Below.step (Below.step (below_box _ _) (below_box _ _)) (below_box _ _)) (below_box _ _)⟩
theorem box_two (w : World) (x y : Value) (t : TypeId) : Below w.heap.size w (w.alloc (.cells #[x, y] t)) ∧ (w.alloc (.cells #[x, y] t)).cell? ⟨w.heap.size, 0, none⟩ = some x ∧ (w.alloc (.cells #[x, y] t)).cell? ⟨w.heap.size, 1, none⟩ = some y :=
  ⟨below_box _ _, box0 _ _ _ _, box1 _ _ _ _⟩
/-- the law's boxes -/
structure Mr (w : World) (n : Int) (s : Value) (css : List (List Int)) (v : Int) (b : Nat) (W : World) : Prop where
  bel : Below w.heap.size w W
  c0 : W.cell? ⟨b, 0, none⟩ = some (.int .i64 n)
  c1 : W.cell? ⟨b, 1, none⟩ = some s
  cv : W.cell? ⟨w.heap.size, 4, none⟩ = some (.int .i64 v)
  rd : Rds W s css
  tn : Tens W
theorem Mr.on {w : World} {n : Int} {s : Value} {css : List (List Int)} {v : Int} {b : Nat} {W W' : World} (h : Mr w n s css v b W) (hb : Below W.heap.size W W') : Mr w n s css v b W' :=
  ⟨h.bel.trans (hb.mono h.bel.size), (hb.cell (p := ⟨b, 0, none⟩) (World.block_lt_of_cell? W _ h.c0)).trans h.c0, (hb.cell (p := ⟨b, 1, none⟩) (World.block_lt_of_cell? W _ h.c1)).trans h.c1, (hb.cell (p := ⟨w.heap.size, 4, none⟩) (World.block_lt_of_cell? W _ h.cv)).trans h.cv, h.rd.below hb, h.tn.below hb⟩
theorem two_ent : entB 2 [[1, 2], [-1, 2]] [2] = true ∧ entE 2 [[1, 2], [-1, 2]] [2] = 0 := by decide

set_option maxRecDepth 100000 in
set_option maxHeartbeats 3200000 in
theorem walk (n : Int) (s : Value) (css : List (List Int)) (i j v : Int) (w : World) (wn : (Lit.int .i64 n).wf = true) (hr : Rds w s css) (wi : (Lit.int .i64 i).wf = true) (wj : (Lit.int .i64 j).wf = true) (wv : (Lit.int .i64 v).wf = true) (ht : Tens w) :
    Calls Tryd.prog 7 #[.agg #[.int .i64 n, s, .int .i64 i, .int .i64 j, .int .i64 v]] w fun e w' => e = .returned (.bool true) ∧ Below w.heap.size w w' := by
  obtain ⟨sa, sc, hs0, _⟩ := hr.form
  subst hs0
  have HR : Hid (∀ W, Below w.heap.size w W → Rds W (.slice sa css.length sc) css ∧ Tens W) := fun W h => ⟨hr.below h, Tens.below ht h⟩
  have HG : Hid (∀ W, Below (w.heap.size + 1) (w.alloc (.cells #[.int .i64 n, .slice sa css.length sc, .int .i64 i, .int .i64 j, .int .i64 v] 44)) W → Below w.heap.size w W ∧ W.cell? ⟨w.heap.size, 0, none⟩ = some (.int .i64 n) ∧ W.cell? ⟨w.heap.size, 1, none⟩ = some (.slice sa css.length sc) ∧ W.cell? ⟨w.heap.size, 2, none⟩ = some (.int .i64 i) ∧ W.cell? ⟨w.heap.size, 3, none⟩ = some (.int .i64 j) ∧ W.cell? ⟨w.heap.size, 4, none⟩ = some (.int .i64 v)) := by
    intro W h
    have k : ∀ j' v', (#[.int .i64 n, .slice sa css.length sc, .int .i64 i, .int .i64 j, .int .i64 v] : Array Value)[j']? = some v' → W.cell? ⟨w.heap.size, j', none⟩ = some v' := fun j' v' hj => (h.cell (p := ⟨w.heap.size, j', none⟩) (Nat.lt_succ_self _)).trans (box_at _ _ _ _ _ hj)
    exact ⟨(below_box _ _).trans (h.mono (by omega)), k 0 _ rfl, k 1 _ rfl, k 2 _ rfl, k 3 _ rfl, k 4 _ rfl⟩
  have HEach : Hid (∀ z ∈ css, z.length * 8 ≤ 140737488351232) := rds_each hr
  clear hr ht wn wi wj wv
  go_enter Tryd.func7, Tryd.ntmps7
  go_wp2_with fail
  have hA : (w.alloc (.cells #[.int .i64 n, .slice sa css.length sc, .int .i64 i, .int .i64 j, .int .i64 v] 44)).heap.size = w.heap.size + 1 := by simp
  obtain ⟨l1, l2, l3⟩ := laid_two (w.alloc (.cells #[.int .i64 n, .slice sa css.length sc, .int .i64 i, .int .i64 j, .int .i64 v] 44))
  rw [hA] at l1 l2 l3
  have ht1 := (HR.out _ ((below_box _ _).trans (l3.mono (by omega)))).2
  refine (cnfEntails_any 2 _ _ [[1, 2], [-1, 2]] [2] _ l1 l2 ht1).mono ?_
  rw [two_ent.1, two_ent.2]
  rintro e w1 ⟨rfl, bel1⟩
  obtain ⟨hb1, q0, q1, q2, q3, q4⟩ := HG.out w1 (l3.trans (bel1.mono (by first | (simp; done) | (simp; omega))))
  have B1 : Hid (Below w.heap.size w w1) := hb1
  clear bel1 HG hb1 l1 l2 l3 ht1 hA
  have hlt : w.heap.size < w1.heap.size := World.block_lt_of_cell? w1 ⟨w.heap.size, 0, none⟩ q0
  go_upto_region 4 with fail
  go_cut [5, 6, 7] from 24 to 29 (fun p5 p6 p7 wx => ∃ b : Nat, p5 = .pointer (some ⟨b, 0, none⟩) ∧ p6 = .int .i64 i ∧ p7 = .int .i64 j ∧ Mr w n (.slice sa css.length sc) css v b wx)
  case first =>
    go_region
    all_goals
      go_wp2_with fail
      go_meet
      obtain ⟨b1, x0, x1⟩ := box_two w1 (.int .i64 n) (.slice sa css.length sc) 24
      have hb := (Below.step B1.out b1).drew
      obtain ⟨k0, k1⟩ := HR.out _ hb
      exact ⟨_, rfl, rfl, rfl, hb, x0, x1, (b1.drew.cell (p := ⟨w.heap.size, 4, none⟩) hlt).trans q4, k0, k1⟩
  case rest =>
  obtain ⟨b, rfl, rfl, rfl, hM⟩ := hcut
  generalize wc = w2 at *
  have HM : Hid (Mr w n (.slice sa css.length sc) css v b w2) := hM
  have c0 := hM.c0
  have c1 := hM.c1
  clear hM q0 q1 q2 q3 q4 hlt
  cases hf : frm n css
  · go_wp2_with fail
    refine (cnfFormed_any n _ css _ HM.out.rd).mono ?_
    rw [hf]
    rintro e w3 ⟨rfl, bel3⟩
    have HM3 : Hid (Mr w n (.slice sa css.length sc) css v b w3) := HM.out.on bel3
    go_wp2
    go_ret
    exact ⟨rfl, HM3.out.bel⟩
  have HF : Hid (frm n css = true) := hf
  go_upto_region 5 with fail
  have HC : Hid (Calls Tryd.prog 18 #[.agg #[.int .i64 n, .slice sa css.length sc]] w2 fun e w' => e = .returned (.bool true) ∧ Below w2.heap.size w2 w') := by
    have := cnfFormed_any n _ css _ HM.out.rd
    rw [hf] at this; exact this
  clear hf c0 c1
  have HM0 := HM
  rcases (show (16 < n ∨ i < 0 ∨ (css.length : Int) ≤ i ∨ j < 0 ∨ (css.length : Int) ≤ j) ∨ (n ≤ 16 ∧ 0 ≤ i ∧ i < css.length ∧ 0 ≤ j ∧ j < css.length) by omega) with hbad | hgood
  · have c0 := HM.out.c0
    have c1 := HM.out.c1
    go_wp2_with fail
    refine HC.out.mono ?_
    rintro e w3 ⟨rfl, bel3⟩
    have HM3 : Hid (Mr w n (.slice sa css.length sc) css v b w3) := HM.out.on bel3
    clear c0 c1 HM bel3
    have c0 := HM3.out.c0
    have c1 := HM3.out.c1
    have HBad : Hid (16 < n ∨ i < 0 ∨ (css.length : Int) ≤ i ∨ j < 0 ∨ (css.length : Int) ≤ j) := hbad
    by_cases d1 : 16 < n
    · go_wp2
      go_ret
      exact ⟨rfl, HM3.out.bel⟩
    by_cases d2 : i < 0
    · go_wp2
      go_ret
      exact ⟨rfl, HM3.out.bel⟩
    by_cases d3 : (css.length : Int) ≤ i
    · go_wp2
      go_ret
      exact ⟨rfl, HM3.out.bel⟩
    by_cases d4 : j < 0
    · go_wp2
      go_ret
      exact ⟨rfl, HM3.out.bel⟩
    have d5 : (css.length : Int) ≤ j := by omega
    go_wp2
    go_ret
    exact ⟨rfl, HM3.out.bel⟩
  obtain ⟨g1, g2, g3, g4, g5⟩ := hgood
  obtain ⟨I, rfl⟩ : ∃ I : Nat, i = I := ⟨i.toNat, by omega⟩
  obtain ⟨J, rfl⟩ : ∃ J : Nat, j = J := ⟨j.toNat, by omega⟩
  have hI : I < css.length := by omega
  have hJ : J < css.length := by omega
  have HN : Hid (n ≤ 16) := g1
  have d1 : ¬ (16 < n) := by omega
  have d3 : ¬ ((css.length : Int) ≤ (I : Int)) := by omega
  have d5 : ¬ ((css.length : Int) ≤ (J : Int)) := by omega
  clear g1 g2 g3 g4 g5
  have c0 := HM.out.c0
  have c1 := HM.out.c1
  go_wp2_with fail
  refine HC.out.mono ?_
  rintro e w3 ⟨rfl, bel3⟩
  have HM3 : Hid (Mr w n (.slice sa css.length sc) css v b w3) := HM.out.on bel3
  clear c0 c1 HM HM0 bel3 HC
  have c0 := HM3.out.c0
  have c1 := HM3.out.c1
  have cv := HM3.out.cv
  go_upto_region 7 with fail
  clear d1 d3 d5
  have x1 : decide (css.length ≤ I) = false := decide_eq_false (by omega)
  have x2 : decide (css.length ≤ J) = false := decide_eq_false (by omega)
  have x3 : decide (16 < n) = false := decide_eq_false (by have := HN.out; omega)
  have x4 : decide ((I : Int) < 0) = false := decide_eq_false (by omega)
  have x5 : decide ((J : Int) < 0) = false := decide_eq_false (by omega)
  simp only [x1, x2, x3, x4, x5, Bool.or_false, Bool.false_or, Bool.or_self]
  clear x1 x2 x3 x4 x5
  obtain ⟨a', c', e', _, _, hcell⟩ := HM3.out.rd.form
  have e3 : a' = sa ∧ c' = sc := by injection e' with q1 q2 q3; exact ⟨q1.symm, q3.symm⟩
  obtain ⟨rfl, rfl⟩ := e3
  obtain ⟨bb, off, u, hsa, cu, ru⟩ := hcell I hI
  obtain ⟨bb', off', u', hsa', cu', ru'⟩ := hcell J hJ
  subst hsa
  obtain ⟨rfl, rfl⟩ : bb' = bb ∧ off' = off := by injection hsa' with q; injection q with q1 q2; exact ⟨q1.symm, q2.symm⟩
  obtain ⟨ua, uc, rfl, _⟩ := ru.form
  obtain ⟨va, vc, rfl, _⟩ := ru'.form
  have HRes : Hid (∀ W', Below w3.heap.size w3 W' → Calls Tryd.prog 19 #[.slice ua (css.getD I []).length uc, .slice va (css.getD J []).length vc, .int .i64 v] W' fun e w' => ∃ x, e = .returned (.tuple #[x, .int .i64 (resolveOf (css.getD I []) (css.getD J []) v).1]) ∧ Own W'.heap.size w' x (resolveOf (css.getD I []) (css.getD J []) v).2 ∧ Below W'.heap.size W' w') := fun W' h => resolve_any _ _ _ _ v W' (ru.below h) (ru'.below h)
  have HEnt : Hid ((resolveOf (css.getD I []) (css.getD J []) v).1 = 0 → entB n css (resolveOf (css.getD I []) (css.getD J []) v).2 = true ∧ entE n css (resolveOf (css.getD I []) (css.getD J []) v).2 = 0) := fun h => res_ent HF.out HN.out hI hJ h
  have H8 : Hid ((resolveOf (css.getD I []) (css.getD J []) v).1 = 0 → (resolveOf (css.getD I []) (css.getD J []) v).2.length * 8 ≤ 140737488351232) := fun h => by rw [(resolveOf_zero h).2.2]; exact tid8 _
  generalize resolveOf (css.getD I []) (css.getD J []) v = R at *
  generalize (css.getD I []).length = nI at *
  generalize (css.getD J []).length = nJ at *
  clear e' hsa' hcell ru ru'
  go_cut [8, 4] from 60 to 75 (fun p8 p4 wx => p4 = .int .i64 R.1 ∧ Own w3.heap.size wx p8 R.2 ∧ Below w3.heap.size w3 wx)
  case first =>
    clear HM3 HEnt H8 HF HN
    have HS : Hid (∀ W', Below w3.heap.size w3 W' → Below w3.heap.size w3 W' ∧ W'.cell? ⟨b, 1, none⟩ = some (.slice (some ⟨bb', off', none⟩) css.length c') ∧ W'.cell? ⟨bb', off' + I, none⟩ = some (.slice ua nI uc) ∧ W'.cell? ⟨bb', off' + J, none⟩ = some (.slice va nJ vc) ∧ W'.cell? ⟨w.heap.size, 4, none⟩ = some (.int .i64 v)) := fun W' h => ⟨h, (h.cell (p := ⟨b, 1, none⟩) (World.block_lt_of_cell? w3 _ c1)).trans c1, (h.cell (p := ⟨bb', off' + I, none⟩) (World.block_lt_of_cell? w3 _ cu)).trans cu, (h.cell (p := ⟨bb', off' + J, none⟩) (World.block_lt_of_cell? w3 _ cu')).trans cu', (h.cell (p := ⟨w.heap.size, 4, none⟩) (World.block_lt_of_cell? w3 _ cv)).trans cv⟩
    go_region_held (fun W' => Below w3.heap.size w3 W' ∧ W'.cell? ⟨b, 1, none⟩ = some (.slice (some ⟨bb', off', none⟩) css.length c') ∧ W'.cell? ⟨bb', off' + I, none⟩ = some (.slice ua nI uc) ∧ W'.cell? ⟨bb', off' + J, none⟩ = some (.slice va nJ vc) ∧ W'.cell? ⟨w.heap.size, 4, none⟩ = some (.int .i64 v)) (first | exact HS.out _ (Below.refl _ _).drew | exact HS.out _ O4.out.2) (first
      | (go_at_call 19; refine (HRes.out _ (Below.refl _ _).drew).mono ?_; rintro e w4 ⟨x4, rfl, own4, bel4⟩; have O4 : Hid (Own w3.heap.size w4 x4 R.2 ∧ Below w3.heap.size w3 w4) := ⟨own4, Below.step (Below.refl _ _).drew bel4⟩; clear own4 bel4))
    all_goals
      go_wp2_with fail
      go_meet
      exact ⟨rfl, O4.out.1, O4.out.2⟩
  case rest =>
  obtain ⟨rfl, own4, bel4⟩ := hcut
  generalize wc = w4 at *
  have HM4 : Hid (Mr w n _ css v b w4) := HM3.out.on bel4
  clear c0 c1 cv HM3 HRes cu cu'
  have c0 := HM4.out.c0
  have c1 := HM4.out.c1
  obtain ⟨a8, k8, rfl⟩ := own_form own4
  by_cases hz : R.1 = 0
  · have HEn := HEnt.out hz
    have HC4 := cnfEntails_any n _ _ css R.2 w4 HM4.out.rd (own4.rd (H8.out hz)) HM4.out.tn
    rw [HEn.1, HEn.2] at HC4
    have HC5 : Hid (Calls Tryd.prog 16 _ w4 _) := HC4
    rw [hz]
    clear HC4 HEn own4 bel4 hz HEnt H8
    go_wp2_with fail
    refine HC5.out.mono ?_
    rintro e w5 ⟨rfl, bel5⟩
    have HB5 : Hid (Below w.heap.size w w5) := HM4.out.bel.trans (bel5.mono HM4.out.bel.size)
    go_wp2
    go_ret
    exact ⟨rfl, HB5.out⟩
  · have hz' : (R.1 == 0) = false := by simpa using hz
    clear own4 bel4
    go_wp2
    go_ret
    exact ⟨rfl, HM4.out.bel⟩

end Go.Proofs.YtbphbnfnolgkfaaDoor.cnfResolvents
