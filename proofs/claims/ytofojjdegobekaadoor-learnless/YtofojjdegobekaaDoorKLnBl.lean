/-
  learn: greatest and believed of the statements, walked.
  KEEP: len below nil form rd mono one more grown lt size cell some none of ofNat add out step row get at mk new made look put del kept drew alloc has same other map rde take lit lev lstB pre ws cells bnd on start app set box bel rz tidy ms reason c f max lv skip end zero
-/
import Derived.Test.YtofojjdegobekaaDoorKLnBp
import Derived.Test.YtofojjdegobekaaDoorKLnC
import Derived.Test.YtofojjdegobekaaDoorJLnK
import Derived.Test.YtofojjdegobekaaDoorKConcat
import Derived.Deep.CutRange
set_option linter.unusedSimpArgs false
set_option linter.unusedVariables false
namespace Go.Proofs.YtofojjdegobekaaDoor
open Go Go.RowKit
theorem max3_15 (x y z : Int) (W : World) : (Builtin.max_ #[3, 3, 3] 3 #[.int .i64 x, .int .i64 y, .int .i64 z]).run Tryd.prog W = .ok (.int .i64 (max (max x y) z)) W := by
  have e : (if (if x < y then y else x) < z then z else (if x < y then y else x)) = max (max x y) z := by omega
  rw [← e]; simp [Builtin.max_, Builtin.max2]
set_option maxHeartbeats 3200000 in
theorem greatest15_any (v : Value) (c : List Int) (a : Int) (w : World) (hr : Rd w v c) (hf : ∀ x ∈ c, fmd x = true) :
    Calls Tryd.prog 28 #[v, .int .i64 a] w fun e w' => e = .returned (.int .i64 (grv c a)) ∧ ∃ n, w' = w.drewN n := by
  have hl := hr.len
  obtain ⟨p, cap, rfl, hc, hm, hcell⟩ := hr.form
  have HC : Hid (∀ k, k < c.length → ∃ b off, p = some ⟨b, off, none⟩ ∧ w.cell? ⟨b, off + k, none⟩ = some (.int .i64 (c.getD k 0))) := hcell
  have HF : Hid (∀ x ∈ c, fmd x = true) := hf
  clear hcell hr hf
  go_enter Tryd.func28, Tryd.ntmps28
  go_wp2
  go_loopg [1, 5] c.length (fun g m i wr => ∃ (k n : Nat), k + g = c.length ∧ m = .int .i64 (grv (c.take k) a) ∧ i = .int .i64 k ∧ wr = w.drewN n)
  case atStart => exact ⟨0, 0, by omega, rfl, rfl, rfl⟩
  case round =>
    obtain ⟨k, n, hk, rfl, rfl, rfl⟩ := hrel
    have HK : Hid (k + gk = c.length) := hk
    have HNN : Hid (∀ j, ∃ q, (w.drewN n).drewN j = w.drewN q) := fun j => ⟨n + j, World.drewN_drewN _ _ _⟩
    have HN1 : Hid (∃ q, (w.drewN n).drew = w.drewN q) := ⟨n + 1, by rw [← World.drewN_drewN]; rfl⟩
    by_cases hlt : k < c.length
    · obtain ⟨b, off, rfl, hck0⟩ := HC.out k hlt
      have hck : (w.drewN n).cell? ⟨b, off + k, none⟩ = some (.int .i64 (c.getD k 0)) := hck0
      have hfx := fmd_range (HF.out _ (getD_mem' (l := c) (k := k) (d := 0) hlt))
      have HT : Hid (grv (c.take (k + 1)) a = max (max (grv (c.take k) a) (c.getD k 0)) (-(c.getD k 0))) := by show _ = _; rw [take_succ_getD c 0 k hlt, grv_snoc]
      have hwr : IntKind.i64.wrap (-(c.getD k 0)) = -(c.getD k 0) := by rw [IntKind.wrap_i64]; omega
      clear hk hck0
      generalize c.getD k 0 = x at *
      generalize hm : grv (c.take k) a = m at *
      obtain ⟨mm, hmm⟩ : ∃ mm, max (max m x) (-x) = mm := ⟨_, rfl⟩
      have HMM : Hid (grv (c.take (k + 1)) a = mm) := by show _ = _; rw [HT.out, hmm]
      have hmax : ∀ (W : World), (Builtin.max_ #[3, 3, 3] 3 #[.int .i64 m, .int .i64 x, .int .i64 (-x)]).run Tryd.prog W = .ok (.int .i64 mm) W := fun W => by rw [max3_15, hmm]
      clear hmm hm HT
      generalize w.drewN n = W0 at *
      go_upto_region 4 with fail
      go_region_law (fail)
      all_goals
        go_wp2_with fail
        go_roundg (gk - 1)
        case measure => have := HK.out; omega
        case rel =>
          obtain ⟨q, hq⟩ := HN1.out
          exact ⟨k + 1, q, by have := HK.out; omega, by rw [HMM.out], by go_num, hq⟩
    · obtain rfl : k = c.length := by omega
      rw [List.take_length]
      clear hk
      go_wp2
      go_ret
      exact ⟨rfl, n, rfl⟩

theorem infoL15 : (Tryd.prog.info? 23).map (fun i => (i.zero, i.size, i.bytes)) = some (some (.slice none 0 0), 1, 24) := by kernel_rfl
theorem one_new15 (w : World) (x : Value) (t : TypeId) : ∀ j y, [x][j]? = some y → (w.alloc (.cells #[x] t)).cell? ((⟨w.heap.size, 0, none⟩ : Addr).add j) = some y := fun j y hy => by
  rw [Addr.add_lit]
  have hh := World.alloc_heap_new w (.cells #[x] t)
  show (match (w.alloc (.cells #[x] t)).heap[w.heap.size]? with | some (Obj.cells c elem frozen) => c[0 + j]? | x => none) = _
  rw [hh]
  simpa using hy
/-- a formula that is being built on: its box at D, its rows from w0 on -/
structure BdV (w0 : World) (D : Nat) (n : Int) (W : World) (rv : Value) (L : List Cls) : Prop where
  hD : w0.heap.size ≤ D
  bel : Below w0.heap.size w0 W
  box : Bx2 W D 37 (.int .i64 n) rv
  own : OwnR w0.heap.size W rv L
theorem BdV.on {w0 : World} {D : Nat} {n : Int} {W W' : World} {rv : Value} {L : List Cls} (h : BdV w0 D n W rv L) (hb : Below W.heap.size W W') : BdV w0 D n W' rv L :=
  ⟨h.hD, h.bel.trans (hb.mono h.bel.size), h.box.below hb, h.own.below hb⟩
theorem BdV.vars {w0 : World} {D : Nat} {n : Int} {W : World} {rv : Value} {L : List Cls} (h : BdV w0 D n W rv L) (m : Int) : BdV w0 D m (W.setCell ⟨D, 0, none⟩ (.int .i64 m)) rv L :=
  ⟨h.hD, h.bel.setCell (p := ⟨D, 0, none⟩) h.hD _, h.box.set0 _, h.own.set h.box (by decide) (by decide) 0 _⟩
theorem BdV.row_alloc {w0 : World} {D : Nat} {n : Int} {W : World} {rv : Value} {L : List Cls} (h : BdV w0 D n W rv L) (o : Obj) : (W.alloc o).ownsRow w0.heap.size 23 1 rv L.length (L.map Prod.fst) := World.ownsRow.alloc h.own.row _
theorem BdV.app {w0 : World} {D : Nat} {n : Int} {W0 W w1 : World} {rv rv' u : Value} {L : List Cls} {z : List Int} {o : Obj} (h : BdV w0 D n W0 rv L) (hb : Below W0.heap.size W0 W) (hu : Own W0.heap.size W u z)
    (own' : w1.ownsRow w0.heap.size 23 1 rv' (L.length + 1) (L.map Prod.fst ++ [u])) (hg : (W.alloc o).grownBy w1 rv.ownBlock) :
    Bx2 w1 D 37 (.int .i64 n) rv ∧ BdV w0 D n (w1.setCell ⟨D, 1, none⟩ rv') rv' (L ++ [(u, z)]) := by
  have h1 := h.on hb
  have ga := World.grownBy_alloc W o none
  have bxa := h1.box.kept ga (by simp)
  have rowa := World.ownsRow.kept h1.own.row ga (one_or _)
  have bx1 := bxa.kept hg (bxa.not_row (by decide) rowa)
  have sW : w0.heap.size ≤ W.heap.size := h1.bel.size
  have hu' : Own w0.heap.size W u z := hu.mono h.bel.size
  have R1 := h1.own.app ga own' hg hu' (ApartC.snoc h.own.ap h.own.own hu (Nat.le_refl _))
  refine ⟨bx1, ⟨h.hD, ?_, bx1.set1 rv', R1.set bx1 (by decide) (by decide) 1 rv'⟩⟩
  exact ((h1.bel.alloc sW o).grown hg (Nat.le_trans sW ga.size) (fun b e => (World.ownsRow.lt rowa b e).1)).setCell (p := ⟨D, 1, none⟩) h.hD _
theorem drew_on (W : World) : Below W.heap.size W W.drew := (Below.refl _ _).drew
set_option maxRecDepth 100000 in
set_option maxHeartbeats 6400000 in
theorem believed_any (v vc : Value) (t : List Ent) (zs : List Int) (w : World) (hr : RdE w v t) (hz : Rd w vc zs) (hw : Ws t) (hzf : zs.all fmd = true) :
    Calls Tryd.prog 13 #[v, vc] w fun e w' => ∃ s, e = .returned (.agg #[.int .i64 (blV t zs), s]) ∧ OwnF w.heap.size w' s (blC t zs) ∧ Below w.heap.size w w' := by
  have hlt0 := hw.len
  have HR : Hid (RdE w v t) := hr
  have HZ : Hid (Rd w vc zs) := hz
  have HWs : Hid (Ws t) := hw
  have HZf : Hid (∀ x ∈ zs, fmd x = true) := List.all_eq_true.1 hzf
  have HRf : Hid (∀ k, k < t.length → ∀ x ∈ (t.getD k e0).2.2, fmd x = true) := fun k hk x hx => by
    have hne : (t.getD k e0).2.2.length ≠ 0 := by intro e; rw [List.length_eq_zero_iff.1 e] at hx; cases hx
    by_cases e : x = (t.getD k e0).1
    · rw [e]; exact hw.lit hk
    · exact ((hw.reason hk hne).2 x hx e).1
  obtain ⟨a, c, rfl, hc, hm, -⟩ := hr.form
  obtain ⟨il, hil, hzl0, hzl1, hzl2⟩ := info_parts infoL15
  have HIl : Hid (Tryd.prog.info? 23 = some il ∧ il.zero = some (.slice none 0 0) ∧ il.size = 1 ∧ il.bytes = 24) := ⟨hil, hzl0, hzl1, hzl2⟩
  clear hr hz hw hzf
  obtain ⟨wa, hwa⟩ : ∃ wa, w.alloc (.cells #[.int .i64 0, .slice none 0 0] 37) = wa := ⟨_, rfl⟩
  have HBa : Hid (Below w.heap.size w wa ∧ Bx2 wa w.heap.size 37 (.int .i64 0) (.slice none 0 0)) := by
    show _ ∧ _
    rw [← hwa]; exact ⟨below_box _ _, Bx2.new _ _ _ _⟩
  have HG0 : Hid (Calls Tryd.prog 28 #[vc, .int .i64 0] wa fun e w' => e = .returned (.int .i64 (grv zs 0)) ∧ ∃ n, w' = wa.drewN n) := greatest15_any vc zs 0 wa (HZ.out.below HBa.out.1) HZf.out
  obtain ⟨m0, hm0⟩ : ∃ m0, grv zs 0 = m0 := ⟨_, rfl⟩
  have HM0 : Hid (grv zs 0 = m0) := hm0
  rw [hm0] at HG0
  clear hm0
  go_enter Tryd.func13, Tryd.ntmps13
  go_wp2_with fail
  clear hwa
  refine HG0.out.mono ?_
  rintro e w1 ⟨rfl, n1, hw1⟩
  obtain ⟨D, hD⟩ : ∃ D, w1.heap.size = D := ⟨_, rfl⟩
  have HB0 : Hid (BdV wa D m0 (w1.alloc (.cells #[.int .i64 m0, .slice none 0 0] 37)) (.slice none 0 0) []) := by
    have hb1 : Below wa.heap.size wa w1 := by rw [hw1]; exact below_drewN _ _
    exact ⟨by rw [← hD]; exact hb1.size, Below.step hb1 (below_box _ _), by rw [← hD]; exact Bx2.new _ _ _ _, OwnR.nil _ _⟩
  clear hw1 HG0
  go_wp2_with fail
  clear hD
  generalize w1.alloc (.cells #[.int .i64 m0, .slice none 0 0] 37) = w2 at *
  go_loopg [6] t.length (fun g i wq => ∃ (k : Nat) (L : List Cls) (rv : Value), k + g = t.length ∧ i = .int .i64 k ∧ L.map Prod.snd = blK t k ∧ Hid (BdV wa D (vrs t m0 k) wq rv L))
  case atStart => exact ⟨0, [], _, by omega, rfl, by rw [blK_zero]; rfl, by rw [vrs_zero]; exact HB0⟩
  case round =>
    obtain ⟨k, L, rv, hk, rfl, hL, HB⟩ := hrel
    have HK2 : Hid (k + gk = t.length) := hk
    have HLs : Hid (L.map Prod.snd = blK t k) := hL
    have hLk : L.length ≤ 2 * k := by have h1 := blK_len t k; rw [← hL] at h1; simpa using h1
    have HBw : Hid (Below w.heap.size w wr) := Below.step HBa.out.1 HB.out.bel
    clear hL
    by_cases hlt : k < t.length
    · obtain ⟨p1, q1, e1, _, _, hcell⟩ := HR.out.form
      injection e1 with e2 e3 e4
      subst e2 e4
      obtain ⟨b, off, u, rfl, hbl, c0, c1, c2, hu0⟩ := hcell k hlt
      have HUf : Hid (∀ x ∈ (t.getD k e0).2.2, fmd x = true) := HRf.out k hlt
      have hfl := fmd_range (HWs.out.lit hlt)
      have HVs : Hid (vrs t m0 (k + 1) = grv (t.getD k e0).2.2 (max (max (vrs t m0 k) (t.getD k e0).1) (-(t.getD k e0).1))) := vrs_succ hlt
      have HBs : Hid (blK t (k + 1) = blK t k ++ blE (t.getD k e0)) := blK_succ hlt
      have hwr : IntKind.i64.wrap (-(t.getD k e0).1) = -(t.getD k e0).1 := by rw [IntKind.wrap_i64]; omega
      have HC3 : Hid (∀ W, Below wa.heap.size wa W → W.cell? ⟨b, off + k * 3, none⟩ = some (.int .i64 (t.getD k e0).1) ∧ W.cell? ⟨b, off + k * 3 + 1, none⟩ = some (.int .i64 (t.getD k e0).2.1) ∧ W.cell? ⟨b, off + k * 3 + 2, none⟩ = some u ∧ Rd W u (t.getD k e0).2.2) := fun W hW => by
        have hW' := Below.step HBa.out.1 hW
        exact ⟨(hW'.cell (p := ⟨b, off + k * 3, none⟩) hbl).trans c0, (hW'.cell (p := ⟨b, off + k * 3 + 1, none⟩) hbl).trans c1, (hW'.cell (p := ⟨b, off + k * 3 + 2, none⟩) hbl).trans c2, hu0.below hW'⟩
      obtain ⟨ua, uc, hu, huc, hum, -⟩ := hu0.form
      unfold blE at HBs
      have hlz := hu0.len
      clear hk hcell hu0 c0 c1 c2
      generalize (t.getD k e0).2.2 = z at *
      generalize (t.getD k e0).1 = x at *
      generalize (t.getD k e0).2.1 = lv at *
      subst hu
      obtain ⟨c0, c1, c2, -⟩ := HC3.out wr HB.out.bel
      have b0 := HB.out.box.c0
      have b1 := HB.out.box.c1
      have y0 := HB.out.box.f0
      obtain ⟨mm, hmm⟩ : ∃ mm, max (max (vrs t m0 k) x) (-x) = mm := ⟨_, rfl⟩
      have hmax : ∀ (W : World), (Builtin.max_ #[3, 3, 3] 3 #[.int .i64 (vrs t m0 k), .int .i64 x, .int .i64 (-x)]).run Tryd.prog W = .ok (.int .i64 mm) W := fun W => by rw [max3_15, hmm]
      rw [hmm] at HVs
      have HG : Hid (∀ W, Below wa.heap.size wa W → Calls Tryd.prog 28 #[.slice ua z.length uc, .int .i64 mm] W fun e w' => e = .returned (.int .i64 (vrs t m0 (k + 1))) ∧ ∃ n, w' = W.drewN n) := fun W hW => by rw [HVs.out]; exact greatest15_any _ z mm W (HC3.out W hW).2.2.2 HUf.out
      obtain ⟨V1, hV1⟩ : ∃ V1, vrs t m0 (k + 1) = V1 := ⟨_, rfl⟩
      have HV1 : Hid (vrs t m0 (k + 1) = V1) := hV1
      rw [hV1] at HG
      clear hV1 HVs
      generalize vrs t m0 k = V0 at *
      clear hmm
      go_upto_region 5 with fail
      go_cut [] from 18 to 38 (fun wx => Hid (BdV wa D V1 wx rv L))
      case first =>
        go_region_law (go_simp; go_at_call 28; refine (HG.out _ (HB.out.on (drew_on _)).bel).mono ?_; intro e w9 hh; obtain ⟨he, n9, hw9⟩ := hh; rw [he, hw9]; clear he hw9 e w9; dsimp only)
        all_goals
          go_wp2_with fail
          go_meet
          exact (HB.out.on (below_drewN _ _)).vars _
      case rest =>
      clear c0 c1 c2 b0 b1 y0 hmax HG HB
      have HB : Hid (BdV wa D V1 wc rv L) := hcut
      clear hcut
      generalize wc = wd at *
      obtain ⟨c0, c1, c2, -⟩ := HC3.out wd HB.out.bel
      go_upto_if 45 with fail
      go_cut [] from 45 to 57 (fun wx => ∃ rv2 L2, L2.map Prod.snd = blK t k ++ (if z.length = 0 then [] else [z]) ∧ L2.length ≤ 2 * k + 1 ∧ Hid (BdV wa D V1 wx rv2 L2))
      case first =>
        by_cases hz0 : z.length = 0
        · have hzb : ¬ (0 : Int) < (z.length : Int) := by omega
          have HZ0 : Hid (z.length = 0) := hz0
          clear hz0
          go_wp2
          go_meet
          exact ⟨rv, L, by rw [if_pos HZ0.out, HLs.out, List.append_nil], by omega, HB⟩
        · have hzb : (0 : Int) < (z.length : Int) := by omega
          have HZ0 : Hid (¬ z.length = 0) := hz0
          clear hz0
          go_wp2_with fail
          refine (copyInts_any _ z wd (HC3.out wd HB.out.bel).2.2.2).mono ?_
          rintro e w5 ⟨u5, rfl, own5, bel5⟩
          have O5 : Hid (Own wd.heap.size w5 u5 z) := own5
          have BL5 : Hid (Below wd.heap.size wd w5) := bel5
          have B5 : Hid (BdV wa D V1 w5 rv L) := HB.out.on bel5
          obtain ⟨a5, c5, hu5⟩ := own_form own5
          subst hu5
          have d0 := B5.out.box.c0
          have d1 := B5.out.box.c1
          have s5 := B5.out.bel.size
          clear own5 bel5
          go_wp2_with (at_builtin; refine wpList_append_own _ rfl _ _ 35 rfl wa.heap.size 23 il (.slice none 0 0) 1 24 Tryd.underlying35 hil hzl0 hzl1 hzl2 rfl (by decide) _ L.length (L.map Prod.fst) rfl (B5.out.row_alloc _) _ 1 1 [.slice a5 z.length c5] rfl rfl (one_new15 _ _ _) (by simp [Value.oneCell']) (by unfold maxLen; omega) (by omega) (by simp; omega) ?_; intro v6 w6 own6 gr6 hn6; refine Hid.out ?_)
          refine Lib.hid ?_
          obtain ⟨a6, c6, hv6⟩ := row_form own6
          subst hv6
          have A6 : Hid (Bx2 w6 D 37 (.int .i64 V1) rv ∧ BdV wa D V1 (w6.setCell ⟨D, 1, none⟩ (.slice a6 (L.length + 1) c6)) (.slice a6 (L.length + 1) c6) (L ++ [(.slice a5 z.length c5, z)])) := HB.out.app BL5.out O5.out own6 gr6
          have g0 := A6.out.1.c0
          have g1 := A6.out.1.c1
          have g2 := A6.out.1.f1
          clear own6 gr6 hn6
          go_wp2
          go_meet
          exact ⟨_, _, by rw [if_neg HZ0.out, List.map_append, HLs.out]; rfl, by simp; omega, A6.out.2⟩
      case rest =>
      clear c0 c1 c2
      obtain ⟨rv2, L2, hL2, hLk2, HB2⟩ := hcut
      have HL2 : Hid (L2.map Prod.snd = blK t k ++ (if z.length = 0 then [] else [z])) := hL2
      clear hL2 HB
      generalize wc = we at *
      obtain ⟨c0, c1, c2, -⟩ := HC3.out we HB2.out.bel
      have b1 := HB2.out.box.c1
      have s2 := HB2.out.bel.size
      obtain ⟨ar, cr, hrv⟩ := row_form HB2.out.own.row
      subst hrv
      by_cases hv0 : lv = 0
      · subst hv0
        have HL4 : Hid ((L2 ++ [(Value.slice (some ⟨we.heap.size, 0, none⟩) 1 1, [x])]).map Prod.snd = blK t (k + 1)) := by show _ = _; rw [List.map_append, HL2.out, HBs.out, if_pos rfl, List.append_assoc]; rfl
        go_upto_region 10 with fail
        have hl63 : L2.length + 1 ≤ maxLen := by unfold maxLen; omega
        have hl48 : (L2.length + 1) * 24 ≤ 140737488355328 := by omega
        have HW1 : Hid (Own we.heap.size (we.drew.alloc (.cells #[.int .i64 x] 3)) (.slice (some ⟨we.heap.size, 0, none⟩) 1 1) [x]) := own_made' we.drew [x] (by simp)
        have HB3 : Hid (BdV wa D V1 (we.drew.alloc (.cells #[.int .i64 x] 3)) (.slice ar L2.length cr) L2) := HB2.out.on (Below.step (drew_on _) (below_box _ _))
        have HBl : Hid (Below we.heap.size we (we.drew.alloc (.cells #[.int .i64 x] 3))) := Below.step (drew_on _) (below_box _ _)
        have d2 : (we.alloc (.cells #[.int .i64 x] 3)).cell? ⟨D, 1, none⟩ = some (.slice ar L2.length cr) := HB3.out.box.c1
        have d3 : ((we.alloc (.cells #[.int .i64 x] 3)).alloc (.cells #[.slice (some ⟨we.heap.size, 0, none⟩) 1 1] 23)).cell? ⟨D, 1, none⟩ = some (.slice ar L2.length cr) := (HB3.out.on (below_box _ _)).box.c1
        have HRow : Hid (((we.alloc (.cells #[.int .i64 x] 3)).alloc (.cells #[.slice (some ⟨we.heap.size, 0, none⟩) 1 1] 23)).drew.ownsRow wa.heap.size 23 1 (.slice ar L2.length cr) L2.length (L2.map Prod.fst) ∧ wa.heap.size ≤ ((we.alloc (.cells #[.int .i64 x] 3)).alloc (.cells #[.slice (some ⟨we.heap.size, 0, none⟩) 1 1] 23)).drew.heap.size) := ⟨HB3.out.row_alloc _, (HB3.out.on (below_box _ _)).bel.size⟩
        have HNew : Hid (∀ j y, [Value.slice (some ⟨we.heap.size, 0, none⟩) 1 1][j]? = some y → ((we.alloc (.cells #[.int .i64 x] 3)).alloc (.cells #[.slice (some ⟨we.heap.size, 0, none⟩) 1 1] 23)).drew.cell? ((⟨(we.alloc (.cells #[.int .i64 x] 3)).heap.size, 0, none⟩ : Addr).add j) = some y) := fun j y hy => one_new15 (we.drew.alloc (.cells #[.int .i64 x] 3)) _ _ j y hy
        have HApp : Hid (∀ v10 w10, w10.ownsRow wa.heap.size 23 1 v10 (L2.length + 1) (L2.map Prod.fst ++ [.slice (some ⟨we.heap.size, 0, none⟩) 1 1]) → ((we.alloc (.cells #[.int .i64 x] 3)).alloc (.cells #[.slice (some ⟨we.heap.size, 0, none⟩) 1 1] 23)).drew.grownBy w10 (Value.slice ar L2.length cr).ownBlock → (∃ a10 c10, v10 = .slice a10 (L2.length + 1) c10) ∧ w10.cell? ⟨D, 1, none⟩ = some (.slice ar L2.length cr) ∧ w10.frozen? ⟨D, 1, none⟩ = false ∧ BdV wa D V1 (w10.setCell ⟨D, 1, none⟩ v10) v10 (L2 ++ [(.slice (some ⟨we.heap.size, 0, none⟩) 1 1, [x])])) := fun v10 w10 own10 gr10 => by
          have q := HB2.out.app HBl.out HW1.out own10 gr10
          exact ⟨row_form own10, q.1.c1, q.1.f1, q.2⟩
        go_region_law (refine step_append_own rfl (.tmp 65) (.tmp 72) 35 rfl wa.heap.size 23 il (.slice none 0 0) 1 24 Tryd.underlying35 HIl.out.1 HIl.out.2.1 HIl.out.2.2.1 HIl.out.2.2.2 rfl (by decide) (.slice ar L2.length cr) L2.length (L2.map Prod.fst) (by simp [Act.eval, Act.put]) HRow.out.1 ⟨(we.alloc (.cells #[.int .i64 x] 3)).heap.size, 0, none⟩ 1 1 [.slice (some ⟨we.heap.size, 0, none⟩) 1 1] (by simp [Act.eval, Act.put]) rfl HNew.out (by simp [Value.oneCell']) hl63 hl48 HRow.out.2 ?_; intro v10 w10 own10 gr10; have F10 : Hid (BdV wa D V1 (w10.setCell ⟨D, 1, none⟩ v10) v10 (L2 ++ [(.slice (some ⟨we.heap.size, 0, none⟩) 1 1, [x])])) := (HApp.out v10 w10 own10 gr10).2.2.2; obtain ⟨⟨a10, c10, hv10⟩, q1, q2, -⟩ := HApp.out v10 w10 own10 gr10; subst hv10; clear own10 gr10)
        all_goals
          go_wp2_with fail
          go_roundg (gk - 1)
          case measure => have := HK2.out; omega
          case rel => exact ⟨k + 1, L2 ++ [(Value.slice (some ⟨we.heap.size, 0, none⟩) 1 1, [x])], _, by have := HK2.out; omega, by go_num, HL4.out, by rw [HV1.out]; exact F10⟩
      · have hvb : (lv == 0) = false := by simpa using hv0
        have HV0 : Hid (¬ lv = 0) := hv0
        clear hv0
        go_wp2
        go_roundg (gk - 1)
        case measure => have := HK2.out; omega
        case rel => exact ⟨k + 1, L2, _, by have := HK2.out; omega, by go_num, by rw [HL2.out, HBs.out, if_neg HV0.out, List.append_nil], by rw [HV1.out]; exact HB2⟩
    · obtain rfl : k = t.length := by omega
      have HVe : Hid (vrs t m0 t.length = blV t zs) := by show _ = _; unfold blV; rw [HM0.out]
      have hLk' : L.length ≤ 2097152 := by omega
      clear hk hlt
      have HZr : Hid (Rd wr vc zs) := HZ.out.below HBw.out
      go_wp2_with fail
      refine (copyInts_any _ zs wr HZr.out).mono ?_
      rintro e w5 ⟨u5, rfl, own5, bel5⟩
      have O5 : Hid (Own wr.heap.size w5 u5 zs) := own5
      have BL5 : Hid (Below wr.heap.size wr w5) := bel5
      have B5 : Hid (BdV wa D (vrs t m0 t.length) w5 rv L) := HB.out.on bel5
      obtain ⟨a5, c5, hu5⟩ := own_form own5
      subst hu5
      have d0 := B5.out.box.c0
      have d1 := B5.out.box.c1
      have s5 := B5.out.bel.size
      clear own5 bel5
      generalize vrs t m0 t.length = V1 at *
      go_wp2_with (at_builtin; refine wpList_append_own _ rfl _ _ 35 rfl wa.heap.size 23 il (.slice none 0 0) 1 24 Tryd.underlying35 hil hzl0 hzl1 hzl2 rfl (by decide) _ L.length (L.map Prod.fst) rfl (B5.out.row_alloc _) _ 1 1 [.slice a5 zs.length c5] rfl rfl (one_new15 _ _ _) (by simp [Value.oneCell']) (by unfold maxLen; omega) (by omega) (by simp; omega) ?_; intro v6 w6 own6 gr6 hn6; refine Hid.out ?_)
      refine Lib.hid ?_
      obtain ⟨a6, c6, hv6⟩ := row_form own6
      subst hv6
      have A6 : Hid (Bx2 w6 D 37 (.int .i64 V1) rv ∧ BdV wa D V1 (w6.setCell ⟨D, 1, none⟩ (.slice a6 (L.length + 1) c6)) (.slice a6 (L.length + 1) c6) (L ++ [(.slice a5 zs.length c5, zs)])) := HB.out.app BL5.out O5.out own6 gr6
      have g0 := A6.out.1.c0
      have g1 := A6.out.1.c1
      have g2 := A6.out.1.f1
      have HLe : Hid ((L ++ [(Value.slice a5 zs.length c5, zs)]).map Prod.snd = blC t zs) := by show _ = _; rw [List.map_append, HLs.out]; rfl
      clear own6 gr6 hn6
      have HAb : Hid (Bx2 (w6.setCell ⟨D, 1, none⟩ (.slice a6 (L.length + 1) c6)) w.heap.size 37 (.int .i64 0) (.slice none 0 0)) := HBa.out.2.below' A6.out.2.bel HBa.out.2.lt
      have p0 := HAb.out.c0
      have p1 := HAb.out.c1
      have p2 := HAb.out.f0
      have p3 := HAb.out.f1
      have r0 := A6.out.2.box.c0
      have r1 := A6.out.2.box.c1
      have HFin : Hid (OwnF w.heap.size (((w6.setCell ⟨D, 1, none⟩ (.slice a6 (L.length + 1) c6)).setCell ⟨w.heap.size, 0, none⟩ (.int .i64 V1)).setCell ⟨w.heap.size, 1, none⟩ (.slice a6 (L.length + 1) c6)) (.slice a6 (L.length + 1) c6) (blC t zs) ∧ Below w.heap.size w (((w6.setCell ⟨D, 1, none⟩ (.slice a6 (L.length + 1) c6)).setCell ⟨w.heap.size, 0, none⟩ (.int .i64 V1)).setCell ⟨w.heap.size, 1, none⟩ (.slice a6 (L.length + 1) c6)) ∧ Bx2 (((w6.setCell ⟨D, 1, none⟩ (.slice a6 (L.length + 1) c6)).setCell ⟨w.heap.size, 0, none⟩ (.int .i64 V1)).setCell ⟨w.heap.size, 1, none⟩ (.slice a6 (L.length + 1) c6)) w.heap.size 37 (.int .i64 V1) (.slice a6 (L.length + 1) c6)) := by
        have bx1 := HAb.out.set0 (.int .i64 V1)
        have f0 : OwnF w.heap.size (w6.setCell ⟨D, 1, none⟩ (.slice a6 (L.length + 1) c6)) (.slice a6 (L.length + 1) c6) (blC t zs) := ⟨_, A6.out.2.own.mono HBa.out.1.size, HLe.out⟩
        have f1 := f0.set HAb.out (by decide) (by decide) 0 (.int .i64 V1)
        have f2 := f1.set bx1 (by decide) (by decide) 1 (.slice a6 (L.length + 1) c6)
        exact ⟨f2, ((Below.step HBa.out.1 A6.out.2.bel).setCell (p := ⟨w.heap.size, 0, none⟩) (Nat.le_refl _) _).setCell (p := ⟨w.heap.size, 1, none⟩) (Nat.le_refl _) _, bx1.set1 _⟩
      generalize hW7 : w6.setCell ⟨D, 1, none⟩ (.slice a6 (L.length + 1) c6) = W7 at *
      go_wp2
      have hbx := HFin.out.2.2
      refine bodyPost_ret (results_cell_row rfl _ _ w.heap.size 37 #[.int .i64 V1, .slice a6 (L.length + 1) c6] (0, 0) _ rfl hbx Tryd.underlying37 (by kernel_rfl) (by rfl)) rfl ?_
      exact ⟨_, by rw [HVe.out], HFin.out.1, HFin.out.2.1⟩
end Go.Proofs.YtofojjdegobekaaDoor
