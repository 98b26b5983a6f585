/-
  The document's Join, walked; two formulas' boxes; a formula that is built on.
-/
import Derived.Test.YtbnnoajpmmbpbaaCopy
set_option linter.unusedSimpArgs false
set_option linter.unusedVariables false
namespace Go.Proofs.Ytbnnoajpmmbpbaa
open Go.RowKit

def jnF (n : Int) (css : List (List Int)) (m : Int) (dss : List (List Int)) : Int × List (List Int) × Int := if frm n css && frm m dss then (max n m, css ++ dss, 0) else (0, [], 1)

/-- two formulas' boxes and the answer's, in a world that has grown -/
structure E2 (w : World) (n : Int) (s : Value) (css : List (List Int)) (m : Int) (t : Value) (dss : List (List Int)) (wr : World) : Prop where
  bel : Below w.heap.size w wr
  f0 : wr.cell? ⟨w.heap.size, 0, none⟩ = some (.int .i64 n)
  f1 : wr.cell? ⟨w.heap.size, 1, none⟩ = some s
  g0 : wr.cell? ⟨w.heap.size + 1, 0, none⟩ = some (.int .i64 m)
  g1 : wr.cell? ⟨w.heap.size + 1, 1, none⟩ = some t
  rf : Rds wr s css
  rg : Rds wr t dss
  ans : Bx2 wr (w.heap.size + 1 + 1) 24 (.int .i64 0) (.slice none 0 0)
theorem E2.on {w : World} {n : Int} {s : Value} {css : List (List Int)} {m : Int} {t : Value} {dss : List (List Int)} {wr w' : World} (h : E2 w n s css m t dss wr) (hb : Below wr.heap.size wr w') : E2 w n s css m t dss w' :=
  ⟨h.bel.trans (hb.mono h.bel.size), (hb.cell (p := ⟨w.heap.size, 0, none⟩) (World.block_lt_of_cell? wr _ h.f0)).trans h.f0, (hb.cell (p := ⟨w.heap.size, 1, none⟩) (World.block_lt_of_cell? wr _ h.f1)).trans h.f1,
    (hb.cell (p := ⟨w.heap.size + 1, 0, none⟩) (World.block_lt_of_cell? wr _ h.g0)).trans h.g0, (hb.cell (p := ⟨w.heap.size + 1, 1, none⟩) (World.block_lt_of_cell? wr _ h.g1)).trans h.g1, h.rf.below hb, h.rg.below hb, h.ans.below hb⟩
abbrev w3b (w : World) (n : Int) (s : Value) (m : Int) (t : Value) : World := ((w.alloc (.cells #[.int .i64 n, s] 24)).alloc (.cells #[.int .i64 m, t] 24)).alloc (.cells #[.int .i64 0, .slice none 0 0] 24)
theorem E2.new {w : World} {n : Int} {s : Value} {css : List (List Int)} {m : Int} {t : Value} {dss : List (List Int)} (hr : Rds w s css) (hg : Rds w t dss) : E2 w n s css m t dss (w3b w n s m t) := by
  have A0 := ((Bx.new (n := n) hr 24).on (below_box _ (.cells #[.int .i64 m, t] 24))).on (below_box _ (.cells #[.int .i64 0, .slice none 0 0] 24))
  have A1 := (Bx.new (n := m) (hg.below (below_box w (.cells #[.int .i64 n, s] 24))) 24).on (below_box _ (.cells #[.int .i64 0, .slice none 0 0] 24))
  have A2 := Bx2.new ((w.alloc (.cells #[.int .i64 n, s] 24)).alloc (.cells #[.int .i64 m, t] 24)) 24 (.int .i64 0) (.slice none 0 0)
  have d0 := A1.c0
  have d1 := A1.c1
  rw [World.size_alloc] at d0 d1
  rw [World.size_alloc, World.size_alloc] at A2
  exact ⟨A0.bel, A0.c0, A0.c1, d0, d1, A0.rd, A1.rd, A2⟩

/-- a formula that is being built on: its box at D, its rows from w0 on -/
structure BdG (w0 : World) (D : Nat) (n : Int) (W : World) (rv : Value) (L : List Cls) : Prop where
  hD : w0.heap.size ≤ D
  bel : Below w0.heap.size w0 W
  box : Bx2 W D 24 (.int .i64 n) rv
  own : OwnR w0.heap.size W rv L
theorem BdG.on {w0 : World} {D : Nat} {n : Int} {W W' : World} {rv : Value} {L : List Cls} (h : BdG w0 D n W rv L) (hb : Below W.heap.size W W') : BdG w0 D n W' rv L :=
  ⟨h.hD, h.bel.trans (hb.mono h.bel.size), h.box.below hb, h.own.below hb⟩
theorem BdG.vars {w0 : World} {D : Nat} {n : Int} {W : World} {rv : Value} {L : List Cls} (h : BdG w0 D n W rv L) (m : Int) : BdG w0 D m (W.setCell ⟨D, 0, none⟩ (.int .i64 m)) rv L :=
  ⟨h.hD, h.bel.setCell (p := ⟨D, 0, none⟩) h.hD _, h.box.set0 _, h.own.set h.box (by decide) (by decide) 0 _⟩
theorem BdG.row_alloc {w0 : World} {D : Nat} {n : Int} {W : World} {rv : Value} {L : List Cls} (h : BdG w0 D n W rv L) (o : Obj) : (W.alloc o).ownsRow w0.heap.size 39 1 rv L.length (L.map Prod.fst) := World.ownsRow.alloc h.own.row _
theorem BdG.app {w0 : World} {D : Nat} {n : Int} {W0 W w1 : World} {rv rv' u : Value} {L : List Cls} {z : List Int} {o : Obj} (h : BdG w0 D n W0 rv L) (hb : Below W0.heap.size W0 W) (hu : Own W0.heap.size W u z)
    (own' : w1.ownsRow w0.heap.size 39 1 rv' (L.length + 1) (L.map Prod.fst ++ [u])) (hg : (W.alloc o).grownBy w1 rv.ownBlock) :
    Bx2 w1 D 24 (.int .i64 n) rv ∧ BdG w0 D n (w1.setCell ⟨D, 1, none⟩ rv') rv' (L ++ [(u, z)]) := by
  have h1 := h.on hb
  have ga := World.grownBy_alloc W o none
  have bxa := h1.box.kept ga (by simp)
  have rowa := World.ownsRow.kept h1.own.row ga (one_or _)
  have bx1 := bxa.kept hg (bxa.not_row (by decide) rowa)
  have sW : w0.heap.size ≤ W.heap.size := h1.bel.size
  have hu' : Own w0.heap.size W u z := hu.mono h.bel.size
  have R1 := h1.own.app ga own' hg hu' (ApartC.snoc h.own.ap h.own.own hu (Nat.le_refl _))
  refine ⟨bx1, ⟨h.hD, ?_, bx1.set1 rv', R1.set bx1 (by decide) (by decide) 1 rv'⟩⟩
  exact ((h1.bel.alloc sW o).grown hg (Nat.le_trans sW ga.size) (fun b e => (World.ownsRow.lt rowa b e).1)).setCell (p := ⟨D, 1, none⟩) h.hD _

set_option maxHeartbeats 3200000 in
set_option maxRecDepth 100000 in
theorem rJoinF_any (n : Int) (s : Value) (css : List (List Int)) (m : Int) (t : Value) (dss : List (List Int)) (w : World) (hr : Rds w s css) (hr2 : Rds w t dss) (hsum : (css.length + dss.length) * 24 ≤ 140737488351232) :
    Calls Try.prog 8 #[.agg #[.int .i64 n, s], .agg #[.int .i64 m, t]] w fun e w' => ∃ s', e = .returned (.tuple #[.agg #[.int .i64 (jnF n css m dss).1, s'], .int .i64 (jnF n css m dss).2.2]) ∧ OwnF w.heap.size w' s' (jnF n css m dss).2.1 ∧ Below w.heap.size w w' := by
  have HE : Hid (E2 w n s css m t dss (w3b w n s m t)) := E2.new hr hr2
  have y0 := HE.out.f0
  have y1 := HE.out.f1
  clear hr hr2
  cases hf : frm n css
  case false =>
    have HU : Hid (jnF n css m dss = (0, [], 1)) := by unfold jnF Hid; rw [hf]; rfl
    go_enter Try.func8, Try.ntmps8
    go_wp2_with fail
    refine (rFormed_any n s css _ HE.out.rf).mono ?_
    rw [hf]
    rintro e w1 ⟨rfl, bel1⟩
    have HE1 : Hid (E2 w n s css m t dss w1) := HE.out.on bel1
    have a0 := HE1.out.ans.c0
    have a1 := HE1.out.ans.c1
    have f0 := HE1.out.ans.f0
    have f1 := HE1.out.ans.f1
    go_wp2
    try simp only [Exit.inBlock, Exit.then]
    refine bodyPost_ret (ret_form rfl rfl ((HE1.out.ans.set0 _).set1 _)) rfl ?_
    exact ⟨_, by rw [HU.out]; rfl, by rw [HU.out]; exact OwnF.nil _ _, below_set (below_set HE1.out.bel (by omega) _ _) (by omega) _ _⟩
  cases hg : frm m dss
  case false =>
    have HU : Hid (jnF n css m dss = (0, [], 1)) := by unfold jnF Hid; rw [hf, hg]; rfl
    go_enter Try.func8, Try.ntmps8
    go_wp2_with fail
    refine (rFormed_any n s css _ HE.out.rf).mono ?_
    rw [hf]
    rintro e w1 ⟨rfl, bel1⟩
    have HE1 : Hid (E2 w n s css m t dss w1) := HE.out.on bel1
    have x0 := HE1.out.g0
    have x1 := HE1.out.g1
    clear HE bel1
    go_wp2_with fail
    refine (rFormed_any m t dss _ HE1.out.rg).mono ?_
    rw [hg]
    rintro e w2 ⟨rfl, bel2⟩
    have HE2 : Hid (E2 w n s css m t dss w2) := HE1.out.on bel2
    clear x0 x1 bel2
    have a0 := HE2.out.ans.c0
    have a1 := HE2.out.ans.c1
    have f0 := HE2.out.ans.f0
    have f1 := HE2.out.ans.f1
    go_wp2
    try simp only [Exit.inBlock, Exit.then]
    refine bodyPost_ret (ret_form rfl rfl ((HE2.out.ans.set0 _).set1 _)) rfl ?_
    exact ⟨_, by rw [HU.out]; rfl, by rw [HU.out]; exact OwnF.nil _ _, below_set (below_set HE2.out.bel (by omega) _ _) (by omega) _ _⟩
  have HU : Hid (jnF n css m dss = (max n m, css ++ dss, 0)) := by unfold jnF Hid; rw [hf, hg]; rfl
  obtain ⟨il, hil, hzl0, hzl1, hzl2⟩ := info_parts infoR
  obtain ⟨ta, tc, rfl, htc, htm, _⟩ := HE.out.rg.form
  go_enter Try.func8, Try.ntmps8
  go_wp2_with fail
  refine (rFormed_any n s css _ HE.out.rf).mono ?_
  rw [hf]
  rintro e w1 ⟨rfl, bel1⟩
  have HE1 : Hid (E2 w n s css m (.slice ta dss.length tc) dss w1) := HE.out.on bel1
  clear y0 y1
  have x0 := HE1.out.g0
  have x1 := HE1.out.g1
  clear HE bel1
  go_wp2_with fail
  refine (rFormed_any m _ dss _ HE1.out.rg).mono ?_
  rw [hg]
  rintro e w2 ⟨rfl, bel2⟩
  have HE2 : Hid (E2 w n s css m (.slice ta dss.length tc) dss w2) := HE1.out.on bel2
  clear HE1 bel2 x0 x1 hf hg
  have x0 := HE2.out.f0
  have x1 := HE2.out.f1
  go_wp2_with fail
  refine (copyFormula_any n s css w2 HE2.out.rf).mono ?_
  rintro e w3 ⟨u3, rfl, own3, bel3⟩
  obtain ⟨L0, own3', hL0⟩ := own3
  obtain ⟨a3, c3, hu3⟩ := row_form own3'.row
  subst hu3
  have HL0 : Hid (L0.length = css.length + 0) := by have := congrArg List.length hL0; unfold Hid; simpa using this
  have HS0 : Hid (L0.map Prod.snd = css) := hL0
  have HB3 : Hid (BdG w2 w3.heap.size n (w3.alloc (.cells #[.int .i64 n, .slice a3 L0.length c3] 24)) (.slice a3 L0.length c3) L0) := ⟨bel3.size, Below.step bel3 (below_box _ _), Bx2.new _ _ _ _, own3'.below (below_box _ _)⟩
  have HBm : Hid (BdG w2 w3.heap.size m (w3.alloc (.cells #[.int .i64 m, .slice a3 L0.length c3] 24)) (.slice a3 L0.length c3) L0) := ⟨bel3.size, Below.step bel3 (below_box _ _), Bx2.new _ _ _ _, own3'.below (below_box _ _)⟩
  have HE4 : Hid (E2 w n s css m (.slice ta dss.length tc) dss (w3.alloc (.cells #[.int .i64 n, .slice a3 L0.length c3] 24))) := (HE2.out.on bel3).on (below_box _ _)
  have z0 := HE4.out.g0
  have z1 := HE4.out.g1
  have b0 := HB3.out.box.c0
  have bf := HB3.out.box.f0
  clear x0 x1 own3' hL0 bel3
  cases hnm : decide (n < m)
  · have HMx : Hid (max n m = n) := by unfold Hid; simp at hnm; omega
    rw [HMx.out] at HU
    go_wp2
    have HB0 : Hid (BdG w2 w3.heap.size n (w3.alloc (.cells #[.int .i64 n, .slice a3 L0.length c3] 24)) (.slice a3 L0.length c3) L0) := HB3
    clear z0 z1 b0 bf HB3 HE4
    generalize w3.heap.size = D at *
    go_loopg [7] dss.length (fun g i wq => ∃ (k : Nat) (L : List Cls) (rv : Value), k + g = dss.length ∧ i = .int .i64 k ∧ L.length = css.length + k ∧ L.map Prod.snd = css ++ dss.take k ∧ Hid (BdG w2 D n wq rv L))
    case atStart => exact ⟨0, L0, _, by omega, rfl, HL0.out, by rw [HS0.out]; simp, HB0⟩
    case round =>
      obtain ⟨k, L, rv, hk, rfl, hLk, hL, HB⟩ := hrel
      have HK2 : Hid (k + gk = dss.length) := hk
      have HLs : Hid (L.map Prod.snd = css ++ dss.take k) := hL
      have HLk : Hid (L.length = css.length + k) := hLk
      have hLk2 : L.length ≤ css.length + k := by omega
      have HEq : Hid (E2 w n s css m (.slice ta dss.length tc) dss wr) := HE2.out.on HB.out.bel
      have sz := HB.out.bel.size
      have x1 := HEq.out.g1
      clear hL hLk
      by_cases hlt : k < dss.length
      · obtain ⟨p1, q1, e1, _, _, hcell⟩ := HEq.out.rg.form
        cases e1
        obtain ⟨b, off, u, rfl, hck, hu0⟩ := hcell k hlt
        have HUq : Hid (Rd wr u (dss.getD k [])) := hu0
        have HS : Hid (dss.take (k + 1) = dss.take k ++ [dss.getD k []]) := take_succ_getD dss [] k hlt
        obtain ⟨_, ua, uc, hu, _⟩ := hu0
        clear hk hcell
        generalize dss.getD k [] = z at *
        subst hu
        go_wp2_with fail
        refine (copyInts_any _ z wr HUq.out).mono ?_
        rintro e w5 ⟨u5, rfl, own5, bel5⟩
        have O5 : Hid (Own wr.heap.size w5 u5 z) := own5
        have BL5 : Hid (Below wr.heap.size wr w5) := bel5
        have B5 : Hid (BdG w2 D n w5 rv L) := HB.out.on bel5
        obtain ⟨a5, c5, hu5⟩ := own_form own5
        subst hu5
        have d0 := B5.out.box.c0
        have d1 := B5.out.box.c1
        have s5 := bel5.size
        clear own5 bel5
        go_wp2_with (at_builtin; refine wpList_append_own _ rfl _ _ 22 rfl w2.heap.size 39 il (.slice none 0 0) 1 24 Try.underlying22 hil hzl0 hzl1 hzl2 rfl (by decide) _ L.length (L.map Prod.fst) rfl (B5.out.row_alloc _) _ 1 1 [.slice a5 z.length c5] rfl rfl (cell_one_new _ _ _) (by simp [Value.oneCell']) (by unfold maxLen; omega) (by omega) (by simp; omega) ?_; intro v6 w6 own6 gr6 hn6; refine Hid.out ?_)
        refine Lib.hid ?_
        obtain ⟨a6, c6, hv6⟩ := row_form own6
        subst hv6
        have A6 : Hid (Bx2 w6 D 24 (.int .i64 n) rv ∧ BdG w2 D n (w6.setCell ⟨D, 1, none⟩ (.slice a6 (L.length + 1) c6)) (.slice a6 (L.length + 1) c6) (L ++ [(.slice a5 z.length c5, z)])) := HB.out.app BL5.out O5.out own6 gr6
        have g0 := A6.out.1.c0
        have g1 := A6.out.1.c1
        have g2 := A6.out.1.f1
        clear own6 gr6 hn6
        go_wp2
        go_roundg (gk - 1)
        case measure => have := HK2.out; omega
        case rel => exact ⟨k + 1, L ++ [(Value.slice a5 z.length c5, z)], Value.slice a6 (L.length + 1) c6, by have := HK2.out; omega, by go_num, by have := HLk.out; simp; omega, by rw [HS.out, List.map_append, HLs.out]; simp, A6.out.2⟩
      · obtain rfl : k = dss.length := by omega
        have HE : Hid (L.map Prod.snd = css ++ dss) := by have := HLs.out; rw [List.take_length] at this; exact this
        have p0 := HEq.out.ans.c0
        have p1 := HEq.out.ans.c1
        have p2 := HEq.out.ans.f0
        have p3 := HEq.out.ans.f1
        have d0 := HB.out.box.c0
        have d1 := HB.out.box.c1
        have HWz : Hid (w.heap.size ≤ w2.heap.size) := HE2.out.bel.size
        obtain ⟨ar, cr, hrv⟩ := row_form HB.out.own.row
        subst hrv
        clear hk
        go_wp2
        try simp only [Exit.inBlock, Exit.then]
        refine bodyPost_ret (ret_form rfl rfl ((HEq.out.ans.set0 _).set1 _)) rfl ?_
        refine ⟨.slice ar L.length cr, by rw [HU.out]; rfl, ?_, below_set (below_set HEq.out.bel (by omega) _ _) (by omega) _ _⟩
        rw [HU.out]
        have F0 : OwnF w.heap.size wr (.slice ar L.length cr) (css ++ dss) := ⟨L, HB.out.own.mono HWz.out, HE.out⟩
        exact (F0.set HEq.out.ans (by decide) (by decide) _ _).set (HEq.out.ans.set0 _) (by decide) (by decide) _ _
  · have HMx : Hid (max n m = m) := by unfold Hid; simp at hnm; omega
    rw [HMx.out] at HU
    go_wp2
    have HB0 : Hid (BdG w2 w3.heap.size m (w3.alloc (.cells #[.int .i64 m, .slice a3 L0.length c3] 24)) (.slice a3 L0.length c3) L0) := HBm
    clear z0 z1 b0 bf HB3 HE4 HBm
    generalize w3.heap.size = D at *
    go_loopg [7] dss.length (fun g i wq => ∃ (k : Nat) (L : List Cls) (rv : Value), k + g = dss.length ∧ i = .int .i64 k ∧ L.length = css.length + k ∧ L.map Prod.snd = css ++ dss.take k ∧ Hid (BdG w2 D m wq rv L))
    case atStart => exact ⟨0, L0, _, by omega, rfl, HL0.out, by rw [HS0.out]; simp, HB0⟩
    case round =>
      obtain ⟨k, L, rv, hk, rfl, hLk, hL, HB⟩ := hrel
      have HK2 : Hid (k + gk = dss.length) := hk
      have HLs : Hid (L.map Prod.snd = css ++ dss.take k) := hL
      have HLk : Hid (L.length = css.length + k) := hLk
      have hLk2 : L.length ≤ css.length + k := by omega
      have HEq : Hid (E2 w n s css m (.slice ta dss.length tc) dss wr) := HE2.out.on HB.out.bel
      have sz := HB.out.bel.size
      have x1 := HEq.out.g1
      clear hL hLk
      by_cases hlt : k < dss.length
      · obtain ⟨p1, q1, e1, _, _, hcell⟩ := HEq.out.rg.form
        cases e1
        obtain ⟨b, off, u, rfl, hck, hu0⟩ := hcell k hlt
        have HUq : Hid (Rd wr u (dss.getD k [])) := hu0
        have HS : Hid (dss.take (k + 1) = dss.take k ++ [dss.getD k []]) := take_succ_getD dss [] k hlt
        obtain ⟨_, ua, uc, hu, _⟩ := hu0
        clear hk hcell
        generalize dss.getD k [] = z at *
        subst hu
        go_wp2_with fail
        refine (copyInts_any _ z wr HUq.out).mono ?_
        rintro e w5 ⟨u5, rfl, own5, bel5⟩
        have O5 : Hid (Own wr.heap.size w5 u5 z) := own5
        have BL5 : Hid (Below wr.heap.size wr w5) := bel5
        have B5 : Hid (BdG w2 D m w5 rv L) := HB.out.on bel5
        obtain ⟨a5, c5, hu5⟩ := own_form own5
        subst hu5
        have d0 := B5.out.box.c0
        have d1 := B5.out.box.c1
        have s5 := bel5.size
        clear own5 bel5
        go_wp2_with (at_builtin; refine wpList_append_own _ rfl _ _ 22 rfl w2.heap.size 39 il (.slice none 0 0) 1 24 Try.underlying22 hil hzl0 hzl1 hzl2 rfl (by decide) _ L.length (L.map Prod.fst) rfl (B5.out.row_alloc _) _ 1 1 [.slice a5 z.length c5] rfl rfl (cell_one_new _ _ _) (by simp [Value.oneCell']) (by unfold maxLen; omega) (by omega) (by simp; omega) ?_; intro v6 w6 own6 gr6 hn6; refine Hid.out ?_)
        refine Lib.hid ?_
        obtain ⟨a6, c6, hv6⟩ := row_form own6
        subst hv6
        have A6 : Hid (Bx2 w6 D 24 (.int .i64 m) rv ∧ BdG w2 D m (w6.setCell ⟨D, 1, none⟩ (.slice a6 (L.length + 1) c6)) (.slice a6 (L.length + 1) c6) (L ++ [(.slice a5 z.length c5, z)])) := HB.out.app BL5.out O5.out own6 gr6
        have g0 := A6.out.1.c0
        have g1 := A6.out.1.c1
        have g2 := A6.out.1.f1
        clear own6 gr6 hn6
        go_wp2
        go_roundg (gk - 1)
        case measure => have := HK2.out; omega
        case rel => exact ⟨k + 1, L ++ [(Value.slice a5 z.length c5, z)], Value.slice a6 (L.length + 1) c6, by have := HK2.out; omega, by go_num, by have := HLk.out; simp; omega, by rw [HS.out, List.map_append, HLs.out]; simp, A6.out.2⟩
      · obtain rfl : k = dss.length := by omega
        have HE : Hid (L.map Prod.snd = css ++ dss) := by have := HLs.out; rw [List.take_length] at this; exact this
        have p0 := HEq.out.ans.c0
        have p1 := HEq.out.ans.c1
        have p2 := HEq.out.ans.f0
        have p3 := HEq.out.ans.f1
        have d0 := HB.out.box.c0
        have d1 := HB.out.box.c1
        have HWz : Hid (w.heap.size ≤ w2.heap.size) := HE2.out.bel.size
        obtain ⟨ar, cr, hrv⟩ := row_form HB.out.own.row
        subst hrv
        clear hk
        go_wp2
        try simp only [Exit.inBlock, Exit.then]
        refine bodyPost_ret (ret_form rfl rfl ((HEq.out.ans.set0 _).set1 _)) rfl ?_
        refine ⟨.slice ar L.length cr, by rw [HU.out]; rfl, ?_, below_set (below_set HEq.out.bel (by omega) _ _) (by omega) _ _⟩
        rw [HU.out]
        have F0 : OwnF w.heap.size wr (.slice ar L.length cr) (css ++ dss) := ⟨L, HB.out.own.mono HWz.out, HE.out⟩
        exact (F0.set HEq.out.ans (by decide) (by decide) _ _).set (HEq.out.ans.set0 _) (by decide) (by decide) _ _

end Go.Proofs.Ytbnnoajpmmbpbaa
