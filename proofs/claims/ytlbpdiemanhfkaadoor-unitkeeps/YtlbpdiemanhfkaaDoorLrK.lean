/-
  depotkit.KeptRows, walked.
  KEEP: set on app at below new trans refl start ap kept rd rds mono lt add none own nil put len pos setF setV putL putR other neV same_any row
-/
import Derived.Test.YtlbpdiemanhfkaaDoorLrL
import Derived.BigQuiet
set_option linter.unusedSimpArgs false
set_option linter.unusedVariables false
namespace Go.Proofs.YtlbpdiemanhfkaaDoor
open Go Go.RowKit Go.Shelf
attribute [local go_sem] Oper.semAt_some

set_option maxRecDepth 100000 in
set_option maxHeartbeats 2000000 in
theorem keptQ_any (B : Nat) (x v : Value) (zs : List Int) (w : World) (ho : Own B w x (zs ++ m64)) (hr : Rd w v zs) :
    Calls Tryd.prog 11 #[x, v] w fun e w' => e = .returned (.bool true) ∧ ∃ n, w' = w.drewN n := by
  have hl := hr.len
  have HR : Hid (∀ W, Below w.heap.size w W → Rd W v zs) := fun W h => hr.below h
  have HO : Hid (∀ W, Below w.heap.size w W → Own B W x (zs ++ m64)) := fun W h => ho.below h
  obtain ⟨_, av, cv, rfl, -⟩ := id hr
  obtain ⟨ax, cx, e⟩ := row_slice1 ho
  rw [List.length_append, m64_len] at e
  subst e
  clear hr ho
  go_enter Tryd.func11, Tryd.ntmps11
  go_wp2
  go_loopg [5] zs.length (fun g i wr => ∃ k : Nat, k + g = zs.length ∧ i = .int .i64 k ∧ ∃ n, wr = w.drewN n)
  case atStart => exact ⟨0, by omega, rfl, 0, rfl⟩
  case round =>
  obtain ⟨k, hk, rfl, n0, hn0⟩ := hrel
  have bel : Below w.heap.size w wr := by rw [hn0]; exact below_drewN _ _
  have HK : Hid (k + gk = zs.length) := hk
  by_cases hlt : k < zs.length
  · obtain ⟨_, _, _, e, _, _, _, h2⟩ := HR.out wr bel
    cases e
    obtain ⟨b, off, e, hb, hcell⟩ := h2 (by intro h; rw [h] at hlt; simp at hlt)
    have hck := hcell k hlt
    subst e
    obtain ⟨g, cap, e, hcap, hcg⟩ := cell_app_left (HO.out wr bel) hlt
    rw [m64_len] at e hcap
    cases e
    have BE : Hid (wr = w.drewN n0) := hn0
    clear hcell h2 hk bel hn0
    generalize zs.getD k 0 = z at *
    go_wp2
    go_quiet (fail)
    go_wp2
    go_roundg (gk - 1)
    case measure => have := HK.out; omega
    case rel => exact ⟨k + 1, by have := HK.out; omega, by go_num, _, by rw [BE.out, World.drewN_drewN]⟩
  have e : k = zs.length := by omega
  subst e
  clear hk hlt HK
  have BEL : Hid (∃ n, wr = w.drewN n) := ⟨n0, hn0⟩
  clear bel hn0
  generalize wr = w2 at *
  go_wp2
  go_loopg [6] 64 (fun g i wr => ∃ k : Nat, k + g = 64 ∧ i = .int .i64 k ∧ ∃ n, wr = w.drewN n)
  case atStart => exact ⟨0, by omega, rfl, BEL.out⟩
  case round =>
  obtain ⟨k, hk, rfl, n0, hn0⟩ := hrel
  have bel : Below w.heap.size w wr := by rw [hn0]; exact below_drewN _ _
  have HK : Hid (k + gk = 64) := hk
  by_cases hlt : k < 64
  · obtain ⟨g, cap, e, hcap, hcg⟩ := cell_app_right (HO.out wr bel) (i := k) (by rw [m64_len]; exact hlt)
    rw [m64_len] at e hcap
    cases e
    rw [m64_at hlt] at hcg
    have HM : Hid (∀ W, Calls Tryd.prog 24 #[.int .i64 0, .int .i64 k] W fun e w' => e = .returned (.int .i64 (mrk 0 k)) ∧ w' = W) := fun W => mark_any 0 k W (by omega) (by omega)
    have BE : Hid (wr = w.drewN n0) := hn0
    clear hk bel hn0
    generalize mrk 0 k = z at *
    go_wp2
    go_quiet ((go_at_call 24; exact Calls.quiet_of_same (HM.out _)))
    go_wp2
    go_roundg (gk - 1)
    case measure => have := HK.out; omega
    case rel => exact ⟨k + 1, by have := HK.out; omega, by go_num, _, by rw [BE.out, World.drewN_drewN]⟩
  have e : k = 64 := by omega
  subst e
  clear hk hlt HK
  go_wp2
  go_ret
  first
  | exact ⟨rfl, n0, rfl⟩
  | exact ⟨rfl, n0, hn0⟩


/-- what KeptRows reads -/
structure Lk (B : Nat) (W : World) (vw vr : Value) (css : List (List Int)) (L M : List Cls) : Prop where
  l : Lr B W vw vr L (L.map cutV ++ M.map Prod.fst) M
  ls : L.map Prod.snd = css.map (· ++ m64)
  ms : M.map Prod.snd = mks 64
theorem Lk.below {B : Nat} {W W' : World} {vw vr : Value} {css : List (List Int)} {L M : List Cls} (h : Lk B W vw vr css L M) (hb : Below W.heap.size W W') : Lk B W' vw vr css L M := ⟨h.l.below hb, h.ls, h.ms⟩
theorem Lq.k {w W : World} {vi vw vr : Value} {css : List (List Int)} {L M : List Cls} (h : Lq w W vi vw vr css L M) : Lk w.heap.size W vw vr css L M := ⟨h.l, h.ls, h.ms⟩
section
variable {B : Nat} {W : World} {vw vr : Value} {css : List (List Int)} {L M : List Cls}
theorem Lk.len (h : Lk B W vw vr css L M) : L.length = css.length ∧ M.length = 64 := by
  have h1 := congrArg List.length h.ls
  have h2 := congrArg List.length h.ms
  simp only [List.length_map, mks, List.length_range] at h1 h2
  exact ⟨h1, h2⟩
/-- the k-th row -/
theorem Lk.at (h : Lk B W vw vr css L M) {k : Nat} (hk : k < css.length) : ∃ gw cw gr cr a c, vw = .slice (some ⟨gw, 0, none⟩) (css.length + 64) cw ∧ css.length + 64 ≤ cw ∧ vr = .slice (some ⟨gr, 0, none⟩) css.length cr ∧ css.length ≤ cr ∧ W.cell? ⟨gw, k, none⟩ = some (.slice a (css.getD k []).length c) ∧ W.cell? ⟨gr, k, none⟩ = some (.slice a ((css.getD k []).length + 64) c) ∧ Own B W (.slice a ((css.getD k []).length + 64) c) (css.getD k [] ++ m64) := by
  obtain ⟨l1, l2⟩ := h.len
  have hkL : k < L.length := by omega
  have hx : L[k] ∈ L := List.getElem_mem hkL
  have ho := h.l.r.own _ hx
  have hz : (L[k]).2 = css.getD k [] ++ m64 := by
    have h3 := congrArg (fun l => l[k]?) h.ls
    simp only [List.getElem?_map, List.getElem?_eq_getElem hkL, List.getElem?_eq_getElem hk, Option.map_some] at h3
    injection h3 with h3
    rw [h3, List.getD_eq_getElem?_getD, List.getElem?_eq_getElem hk]; rfl
  obtain ⟨a, c, e⟩ := own_form ho
  rw [hz, m64_app_len] at e
  obtain ⟨gr, cr, er, r1, -, -⟩ := row_some h.l.r.row (by omega)
  have hw := h.l.w
  have hwl : (L.map cutV ++ M.map Prod.fst).length = css.length + 64 := by simp only [List.length_append, List.length_map]; omega
  obtain ⟨gw, cw, ew, w1, -, -⟩ := row_some hw (by omega)
  rw [hwl] at ew w1
  have hr := h.l.r.row
  rw [er] at hr
  have c1 := row_cell hr (j := k) (x := (L[k]).1) (by rw [List.getElem?_map, List.getElem?_eq_getElem hkL]; rfl)
  rw [ew, hwl] at hw
  have c2 := row_cell hw (j := k) (x := cutV (L[k])) (by rw [List.getElem?_append_left (by rw [List.length_map]; exact hkL), List.getElem?_map, List.getElem?_eq_getElem hkL]; rfl)
  rw [e] at c1 ho
  have ecut : cutV (L[k]) = .slice a (css.getD k []).length c := by unfold cutV; rw [e]; simp
  rw [ecut] at c2
  rw [l1] at er r1
  rw [hz] at ho
  exact ⟨gw, cw, gr, cr, a, c, ew, w1, er, r1, c2, c1, ho⟩
/-- the i-th mark -/
theorem Lk.mrkAt (h : Lk B W vw vr css L M) {i : Nat} (hi : i < 64) : ∃ gw cw g c, vw = .slice (some ⟨gw, 0, none⟩) (css.length + 64) cw ∧ css.length + 64 ≤ cw ∧ W.cell? ⟨gw, css.length + i, none⟩ = some (.slice (some ⟨g, 0, none⟩) 1 c) ∧ 1 ≤ c ∧ W.cell? ⟨g, 0, none⟩ = some (.int .i64 (mrk 1 i)) := by
  obtain ⟨l1, l2⟩ := h.len
  have hiM : i < M.length := by omega
  have ho := h.l.m _ (List.getElem_mem hiM)
  have hz : (M[i]).2 = [mrk 1 i] := by
    have h3 := congrArg (fun l => l[i]?) h.ms
    simp only [mks, List.getElem?_map, List.getElem?_eq_getElem hiM, List.getElem?_range hi, Option.map_some] at h3
    injection h3
  rw [hz] at ho
  obtain ⟨g, c, e, o1, -, -⟩ := row_some ho (by simp)
  have hw := h.l.w
  have hwl : (L.map cutV ++ M.map Prod.fst).length = css.length + 64 := by simp only [List.length_append, List.length_map]; omega
  obtain ⟨gw, cw, ew, w1, -, -⟩ := row_some hw (by omega)
  rw [hwl] at ew w1
  rw [ew, hwl] at hw
  have c2 := row_cell hw (j := css.length + i) (x := (M[i]).1) (by rw [List.getElem?_append_right (by rw [List.length_map]; omega), List.length_map, l1, show css.length + i - css.length = i by omega, List.getElem?_map, List.getElem?_eq_getElem hiM]; rfl)
  have e' : (M[i]).1 = .slice (some ⟨g, 0, none⟩) 1 c := e
  rw [e'] at c2 ho
  exact ⟨gw, cw, g, c, ew, w1, c2, o1, row_cell ho (j := 0) rfl⟩
end
theorem m64_left (z : List Int) {j : Nat} (h : j < z.length) : (z ++ m64).getD j 0 = z.getD j 0 := by
  rw [List.getD_eq_getElem?_getD, List.getD_eq_getElem?_getD, List.getElem?_append_left h]
set_option maxRecDepth 100000 in
set_option maxHeartbeats 6400000 in
theorem keptRows_any (B : Nat) (vi vw vr v : Value) (css : List (List Int)) (L M : List Cls) (w : World) (hk : Lk B w vw vr css L M) (hr : Rds w v css) (hb : css.length ≤ 1073741824) :
    Calls Tryd.prog 10 #[.agg #[vi, vw, vr], v] w fun e w' => e = .returned (.bool true) ∧ Below w.heap.size w w' := by
  obtain ⟨a, c, rfl, h1, h2, hAT⟩ := hr.form
  have HAT : Hid (∀ (k : Nat), k < css.length → ∃ bb off u cu, a = some ⟨bb, off, none⟩ ∧ ∀ W, Below w.heap.size w W → W.cell? ⟨bb, off + k, none⟩ = some (.slice u (css.getD k []).length cu) ∧ Rd W (.slice u (css.getD k []).length cu) (css.getD k [])) := fun k hk => by
    obtain ⟨bb, off, u, e, kc, hrd⟩ := hAT k hk
    obtain ⟨au, cu, eu, -, -, -⟩ := hrd.form
    subst eu
    exact ⟨bb, off, au, cu, e, fun W hW => ⟨(hW.cell (p := ⟨bb, off + k, none⟩) (World.block_lt_of_cell? w _ kc)).trans kc, hrd.below hW⟩⟩
  have HL : Hid (∀ W, Below w.heap.size w W → Lk B W vw vr css L M) := fun W hW => hk.below hW
  have HZl : Hid (∀ z ∈ css, z.length * 8 ≤ 140737488351232) := rds_each hr
  have HX : Hid (Bx3 (w.alloc (.cells #[vi, vw, vr] 29)) w.heap.size 29 vi vw vr) := World.alloc_heap_new w _
  have HB0 : Hid (Below w.heap.size w (w.alloc (.cells #[vi, vw, vr] 29))) := below_box _ _
  obtain ⟨gw, cw, -, -, ew, hcw, -, -, -⟩ := hk.mrkAt (i := 0) (by omega)
  have er : ∃ ar cr, vr = .slice ar css.length cr := by
    obtain ⟨ar, cr, e⟩ := row_form hk.l.r.row
    exact ⟨ar, cr, by rw [e, hk.len.1]⟩
  obtain ⟨ar, cr, er⟩ := er
  subst ew; subst er
  have x1 := HX.out.c1
  have x2 := HX.out.c2
  clear hr hAT hk
  generalize hCL : css.length = CL at *
  have HCL : Hid (css.length = CL) := hCL
  clear hCL
  go_enter Tryd.func10, Tryd.ntmps10
  go_wp2
  generalize w.alloc (.cells #[vi, .slice (some ⟨gw, 0, none⟩) (CL + 64) cw, .slice ar CL cr] 29) = W0 at *
  clear x1 x2
  go_loopg [5, 6, 7] CL (fun q i' r' j' wr => ∃ k : Nat, k + q = CL ∧ i' = .int .i64 k ∧ Below W0.heap.size W0 wr)
  case atStart => exact ⟨0, by omega, rfl, Below.refl _ _⟩
  case round =>
    obtain ⟨k, hk, rfl, hbw⟩ := hrel
    have HK : Hid (k + gk = CL) := hk
    have HW : Hid (Below W0.heap.size W0 wr ∧ Below w.heap.size w wr) := ⟨hbw, Below.step HB0.out hbw⟩
    have x1 := (HX.out.below hbw).c1
    have x2 := (HX.out.below hbw).c2
    clear hk hbw
    by_cases hlt : k < CL
    · have hltc : k < css.length := by rw [HCL.out]; exact hlt
      obtain ⟨bb, off, au, cu, rfl, hcr⟩ := HAT.out k hlt
      obtain ⟨kc, hrd⟩ := hcr wr HW.out.2
      obtain ⟨gw', cw', gr, cr', a1, c1, e1, -, e2, h5, c2, c3, ho⟩ := (HL.out wr HW.out.2).at hltc
      rw [HCL.out] at e1 e2 h5
      injection e1 with e1 _ e1c
      injection e1 with e1; injection e1 with e1
      injection e2 with e2 _ e2c
      subst e1; subst e1c; subst e2; subst e2c
      have HKe : Hid (∀ n, Calls Tryd.prog 11 #[.slice a1 ((css.getD k []).length + 64) c1, .slice au (css.getD k []).length cu] (wr.drewN n) fun e w' => e = .returned (.bool true) ∧ ∃ m, w' = (wr.drewN n).drewN m) := fun n => keptQ_any B _ _ (css.getD k []) (wr.drewN n) (ho.below (below_drewN _ _)) (hrd.below (below_drewN _ _))
      have HCo : Hid (∀ j, j < (css.getD k []).length → ∃ g, a1 = some ⟨g, 0, none⟩ ∧ (css.getD k []).length + 64 ≤ c1 ∧ ∀ W, Below wr.heap.size wr W → W.cell? ⟨g, j, none⟩ = some (.int .i64 ((css.getD k []).getD j 0))) := fun j hj => by
        obtain ⟨g, cc, e, h6, h7⟩ := own_at ho (i := j) (by rw [m64_app_len]; omega)
        rw [m64_app_len] at e h6
        injection e with e _ e3
        subst e; subst e3
        rw [m64_left _ hj] at h7
        exact ⟨g, rfl, h6, fun W hW => (hW.cell (p := ⟨g, j, none⟩) (World.block_lt_of_cell? wr _ h7)).trans h7⟩
      have HCr : Hid (∀ j, j < (css.getD k []).length → ∃ g o, au = some ⟨g, o, none⟩ ∧ ∀ W, Below wr.heap.size wr W → W.cell? ⟨g, o + j, none⟩ = some (.int .i64 ((css.getD k []).getD j 0))) := fun j hj => by
        obtain ⟨a9, c9, e9, -, -, h9⟩ := hrd.form
        injection e9 with e9 _ _
        subst e9
        obtain ⟨g, o, e, h7⟩ := h9 j hj
        exact ⟨g, o, e, fun W hW => (hW.cell (p := ⟨g, o + j, none⟩) (World.block_lt_of_cell? wr _ h7)).trans h7⟩
      have HKc : Hid (∀ W, Below w.heap.size w W → W.cell? ⟨bb, off + k, none⟩ = some (.slice au (css.getD k []).length cu)) := fun W hW => (hcr W hW).1
      have HLT : Hid (k < CL) := hlt
      have hzl := HZl.out _ (getD_inR hltc)
      clear hcr hrd ho
      generalize css.getD k [] = z at *
      go_wp2
      go_quiet ((go_at_call 11; exact Calls.quiet_of (HKe.out _)))
      go_wp2
      rename_i nq
      generalize wr = w5 at *
      generalize gk = G at *
      go_loopg [7] z.length (fun q j' wx => ∃ j : Nat, j + q = z.length ∧ j' = .int .i64 j ∧ Below w5.heap.size w5 wx)
      case atStart => exact ⟨0, by omega, rfl, below_drewN _ _⟩
      case round =>
        obtain ⟨j, hj, rfl, hbx⟩ := hrel
        have HJ : Hid (j + gk = z.length) := hj
        have HBx : Hid (Below w5.heap.size w5 wr) := hbx
        by_cases hjl : j < z.length
        · obtain ⟨g1, rfl, h6, d1⟩ := HCo.out j hjl
          obtain ⟨g2, o2, rfl, d2⟩ := HCr.out j hjl
          have k1 := d1 wr hbx
          have k2 := d2 wr hbx
          have k3 := HKc.out wr (HW.out.2.trans (hbx.mono HW.out.2.size))
          have HJL : Hid (j < z.length) := hjl
          clear d1 d2 hbx hj kc c2 c3 x1 x2
          generalize z.getD j 0 = y at *
          go_wp2
          go_quiet (fail)
          go_wp2
          go_roundg (gk - 1)
          case measure => have := HJ.out; have := HJL.out; omega
          case rel => exact ⟨j + 1, by have := HJ.out; have := HJL.out; omega, by go_num, HBx.out.trans ((below_drewN _ _).mono HBx.out.size)⟩
        · have HBy : Hid (Below W0.heap.size W0 wr) := Below.step HW.out.1 hbx
          clear hbx hj kc c2 c3 x1 x2
          go_wp2
          go_roundg (G - 1)
          case measure => have := HK.out; have := HLT.out; omega
          case rel => exact ⟨k + 1, by have := HK.out; have := HLT.out; omega, by go_num, HBy.out⟩
    · obtain rfl : k = CL := by have := HK.out; omega
      clear x1 x2
      go_wp2
      generalize wr = w5 at *
      generalize gk = G at *
      go_loopg [8, 9] 64 (fun q i' r' wx => ∃ i : Nat, i + q = 64 ∧ i' = .int .i64 i ∧ Below w5.heap.size w5 wx)
      case atStart => exact ⟨0, by omega, rfl, Below.refl _ _⟩
      case round =>
        obtain ⟨i, hi, rfl, hbx⟩ := hrel
        have HJ : Hid (i + gk = 64) := hi
        have HBx : Hid (Below w5.heap.size w5 wr) := hbx
        by_cases hil : i < 64
        · obtain ⟨gw', cw', g, c1, e1, -, c2, h6, c3⟩ := (HL.out wr (HW.out.2.trans (hbx.mono HW.out.2.size))).mrkAt hil
          rw [HCL.out] at e1 c2
          injection e1 with e1 _ e1c
          injection e1 with e1; injection e1 with e1
          subst e1; subst e1c
          have x1 := (HX.out.below (Below.step HW.out.1 hbx)).c1
          have HM : Hid (∀ W, Calls Tryd.prog 24 #[.int .i64 1, .int .i64 i] W fun e w' => e = .returned (.int .i64 (mrk 1 i)) ∧ w' = W) := fun W => mark_any 1 i W (by omega) (by omega)
          have HIL : Hid (i < 64) := hil
          clear hbx hi
          generalize mrk 1 i = mk at *
          go_wp2
          go_quiet ((go_at_call 24; exact Calls.quiet_of_same (HM.out _)))
          go_wp2
          go_roundg (gk - 1)
          case measure => have := HJ.out; have := HIL.out; omega
          case rel => exact ⟨i + 1, by have := HJ.out; have := HIL.out; omega, by go_num, HBx.out.trans ((below_drewN _ _).mono HBx.out.size)⟩
        · have HF : Hid (Below w.heap.size w wr) := HW.out.2.trans (hbx.mono HW.out.2.size)
          clear hbx hi
          go_wp2
          go_ret
          exact ⟨rfl, HF.out⟩
end Go.Proofs.YtlbpdiemanhfkaaDoor
