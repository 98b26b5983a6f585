/-
  LearnKeeps, walked (written by walks/genlk.py).
  KEEP: set on app at below new trans refl start ap kept rd rds mono lt add none own nil put len pos setF setV putL putR other neV same_any row box fx k b walk form two
-/
import Derived.Test.YtgngdohhlhlcpaaKLnKp
import Derived.Test.YtgngdohhlhlcpaaLeL
import Derived.Deep.RegionHeld
set_option linter.unusedSimpArgs false
set_option linter.unusedVariables false
namespace Go.Proofs.Ytgngdohhlhlcpaa.learnKeeps
open Go Go.RowKit
theorem cell_of_block {W W' : World} {k j : Nat} (h : W'.heap[k]? = W.heap[k]?) : W'.cell? ⟨k, j, none⟩ = W.cell? ⟨k, j, none⟩ := by simp [World.cell?, h]
theorem Asked4 (w : World) (a b c d : Value) (T : TypeId) {W : World} (hW : Below (w.alloc (.cells #[a, b, c, d] T)).heap.size (w.alloc (.cells #[a, b, c, d] T)) W) : W.cell? ⟨w.heap.size, 0, none⟩ = some a ∧ W.cell? ⟨w.heap.size, 1, none⟩ = some b ∧ W.cell? ⟨w.heap.size, 2, none⟩ = some c ∧ W.cell? ⟨w.heap.size, 3, none⟩ = some d :=
  ⟨box_at hW rfl, box_at hW rfl, box_at hW rfl, box_at hW rfl⟩
set_option maxRecDepth 100000 in
set_option maxHeartbeats 25600000 in
theorem walk (vT : Value) (t : List Ent) (vU : Value) (us : List Ent) (vC : Value) (zs : List Int) (vD : Value) (ds : List Int) (w : World) (hT : RdE w vT t) (hU : RdE w vU us) (hC : Rd w vC zs) (hD : Rd w vD ds) (hb : t.length ≤ 1048576) (hb2 : zs.length ≤ 1048576) :
    Calls Try.prog 3 #[.agg #[vT, vU, vC, vD]] w fun e w' => e = .returned (.bool true) ∧ Below w.heap.size w w' := by
  have hu40 := hU.len
  have hu8 := rde_each hU
  have hlz := hC.len
  have hld := hD.len
  have HT : Hid (RdE w vT t ∧ RdE w vU us ∧ Rd w vC zs ∧ Rd w vD ds) := ⟨hT, hU, hC, hD⟩
  have HT8 : Hid (∀ k, k < t.length → (t.getD k e0).2.2.length * 8 ≤ 140737488351232) := fun k hk => rde_each hT _ (getD_mem' hk)
  obtain ⟨ta, tc, rfl, htc, htm, -⟩ := hT.form
  obtain ⟨ua, uc, rfl, huc, hum, -⟩ := hU.form
  obtain ⟨za, zc, rfl, hzc, hzm, -⟩ := hC.form
  obtain ⟨da, dc, rfl, hdc, hdm, -⟩ := hD.form
  clear hT hU hC hD
  generalize hwp : w.alloc (.cells #[.slice ta t.length tc, .slice ua us.length uc, .slice za zs.length zc, .slice da ds.length dc] 25) = wp at *
  obtain ⟨P, hP⟩ : ∃ P, w.heap.size = P := ⟨_, rfl⟩
  have HP : Hid (∀ W, Below wp.heap.size wp W → Below w.heap.size w W ∧ W.cell? ⟨P, 0, none⟩ = some (.slice ta t.length tc) ∧ W.cell? ⟨P, 1, none⟩ = some (.slice ua us.length uc) ∧ W.cell? ⟨P, 2, none⟩ = some (.slice za zs.length zc) ∧ W.cell? ⟨P, 3, none⟩ = some (.slice da ds.length dc)) := fun W hW => by
    rw [← hwp] at hW
    rw [← hP]
    exact ⟨Below.step (below_box _ _) hW, Asked4 w _ _ _ _ _ hW⟩
  have HLe : Hid (Calls Try.prog 4 #[.slice ta t.length tc] wp fun e w' => ∃ gw cw ar cr L, e = .returned (.agg #[.slice (some ⟨gw, 0, none⟩) t.length cw, .slice (some ⟨gw, 0, none⟩) (t.length + 64) cw, .slice ar t.length cr]) ∧ Kt wp.heap.size w' (.slice (some ⟨gw, 0, none⟩) (t.length + 64) cw) (.slice ar t.length cr) t L ∧ Below wp.heap.size wp w') := (lentEntries_any _ t wp (HT.out.1.below (HP.out wp (Below.refl _ _)).1) (by omega)).mono fun e w' ⟨vi, vw, vr, L, he, hf⟩ => by
    obtain ⟨gw, cw, e1, -, -, -, -⟩ := hf.k.vwF
    obtain ⟨a, c, e2, e3⟩ := hf.i
    rw [e2] at e1
    injection e1 with q1 _ q3
    obtain ⟨ar, cr, e4⟩ := row_form hf.k.l.r.row
    rw [hf.k.len] at e4
    subst e2 e3 e4 q1 q3
    exact ⟨gw, c, ar, cr, L, he, hf.k, hf.b⟩
  obtain ⟨p0, p1, p2, p3⟩ := (HP.out wp (Below.refl _ _)).2
  rw [hP]
  go_enter Try.func3, Try.ntmps3
  go_upto_region 2 with (go_at_call 4; refine HLe.out.mono ?_; rintro e w1 ⟨gw, cw, ar, cr, L, rfl, hkt, hb1⟩; have H1 : Hid (Kt wp.heap.size w1 (.slice (some ⟨gw, 0, none⟩) (t.length + 64) cw) (.slice ar t.length cr) t L ∧ Below wp.heap.size wp w1) := ⟨hkt, hb1⟩; clear hkt hb1)
  clear hwp p0 p1 p2 p3 HLe
  obtain ⟨X, hX⟩ : ∃ X, w1.heap.size = X := ⟨_, rfl⟩
  have HXx : Hid (∀ W, Below (w1.alloc (.cells #[.slice (some ⟨gw, 0, none⟩) t.length cw, .slice (some ⟨gw, 0, none⟩) (t.length + 64) cw, .slice ar t.length cr] 28)).heap.size (w1.alloc (.cells #[.slice (some ⟨gw, 0, none⟩) t.length cw, .slice (some ⟨gw, 0, none⟩) (t.length + 64) cw, .slice ar t.length cr] 28)) W → Kt wp.heap.size W (.slice (some ⟨gw, 0, none⟩) (t.length + 64) cw) (.slice ar t.length cr) t L ∧ Below wp.heap.size wp W ∧ W.cell? ⟨X, 0, none⟩ = some (.slice (some ⟨gw, 0, none⟩) t.length cw) ∧ W.cell? ⟨X, 1, none⟩ = some (.slice (some ⟨gw, 0, none⟩) (t.length + 64) cw) ∧ W.cell? ⟨X, 2, none⟩ = some (.slice ar t.length cr)) := fun W hW => by
    have hb9 : Below w1.heap.size w1 W := Below.step (below_box _ _) hW
    rw [← hX]
    exact ⟨H1.out.1.below hb9, Below.step H1.out.2 hb9, box_at hW rfl, box_at hW rfl, box_at hW rfl⟩
  have HXl : Hid (∀ k, Lwn (.slice (some ⟨gw, 0, none⟩) (t.length + 64) cw) L k → wp.heap.size ≤ k ∧ k < X) := fun k hk => by
    rw [← hX]
    rcases hk with e | ⟨x, hx, e⟩
    · exact H1.out.1.l.w.lt k e.symm
    · exact (H1.out.1.l.r.own x hx).lt k e.symm
  have HX2 : Hid ((w1.alloc (.cells #[.slice (some ⟨gw, 0, none⟩) t.length cw, .slice (some ⟨gw, 0, none⟩) (t.length + 64) cw, .slice ar t.length cr] 28)).heap.size = X + 1) := by show _ = _; rw [World.size_alloc, hX]
  generalize w1.alloc (.cells #[.slice (some ⟨gw, 0, none⟩) t.length cw, .slice (some ⟨gw, 0, none⟩) (t.length + 64) cw, .slice ar t.length cr] 28) = wx at *
  rw [hX]
  clear hX H1
  obtain ⟨-, p0, p1, p2, p3⟩ := HP.out wx (HXx.out wx (Below.refl _ _)).2.1
  have HLc : Hid (Calls Try.prog 5 #[.slice za zs.length zc] wx fun e w' => ∃ ca cc, e = .returned (.slice ca (zs.length + 64) cc) ∧ zs.length ≤ cc ∧ Own wx.heap.size w' (.slice ca (zs.length + 64) cc) (zs ++ m64) ∧ Below wx.heap.size wx w') := (lent_any _ zs wx (HT.out.2.2.1.below (HP.out wx (HXx.out wx (Below.refl _ _)).2.1).1)).mono fun e w' ⟨u, he, ho, hb9⟩ => by
    obtain ⟨ca, cc, e1⟩ := own_form ho
    have hc : (zs ++ m64).length ≤ cc := by
      obtain ⟨g', c', e', h5, -, -⟩ := row_some ho (by rw [m64_app_lenE]; omega)
      rw [e1] at e'
      injection e' with _ _ e3
      omega
    rw [m64_app_lenE] at e1 hc
    subst e1
    exact ⟨ca, cc, he, by omega, ho, hb9⟩
  go_upto_region 3 with (go_at_call 5; refine HLc.out.mono ?_; rintro e y0 ⟨ca, cc, rfl, hcc, ho, hb9⟩; have H2 : Hid (Own wx.heap.size y0 (.slice ca (zs.length + 64) cc) (zs ++ m64) ∧ Below wx.heap.size wx y0) := ⟨ho, hb9⟩; clear ho hb9)
  clear p0 p1 p2 p3 HLc
  have HS : Hid (∀ W, Below y0.heap.size y0 W → Ks w W P X (.slice ta t.length tc) (.slice ua us.length uc) (.slice za zs.length zc) (.slice da ds.length dc) (.slice (some ⟨gw, 0, none⟩) t.length cw) (.slice (some ⟨gw, 0, none⟩) (t.length + 64) cw) (.slice ar t.length cr) (.slice ca zs.length cc) t us zs ds t zs) := fun W hW => by
    have h0 : Below wx.heap.size wx W := Below.step H2.out.2 hW
    obtain ⟨k1, k2, k3, k4, k5⟩ := HXx.out W h0
    obtain ⟨q1, q2, q3, q4, q5⟩ := HP.out W k2
    exact ⟨k1.rde (by omega) HT8.out, (cut64 (H2.out.1.below hW)).rd hlz, HT.out.1.below q1, HT.out.2.1.below q1, HT.out.2.2.1.below q1, HT.out.2.2.2.below q1, q1, k3, k4, k5, q2, q3, q4, q5⟩
  have HKt : Hid (∀ W, Below y0.heap.size y0 W → Kt wp.heap.size W (.slice (some ⟨gw, 0, none⟩) (t.length + 64) cw) (.slice ar t.length cr) t L ∧ Own wx.heap.size W (.slice ca (zs.length + 64) cc) (zs ++ m64) ∧ Below wp.heap.size wp W) := fun W hW => ⟨(HXx.out W (Below.step H2.out.2 hW)).1, H2.out.1.below hW, (HXx.out W (Below.step H2.out.2 hW)).2.1⟩
  have HBs : Hid (wx.heap.size ≤ y0.heap.size ∧ X < wx.heap.size ∧ wp.heap.size ≤ X) := by
    refine ⟨H2.out.2.size, by rw [HX2.out]; omega, ?_⟩
    have h9 := HXl.out gw (.inl rfl)
    omega
  have hK1 := lnL_len t zs
  have hS1 := shL_len t zs hlz
  have hK3 := lnL_len us ds
  have hS3 := shL_len us ds hld
  have HCtr : Hid (∀ (y : World), Below y0.heap.size y0 y → ∀ W, Below y.heap.size y W → (Calls Try.prog 6 #[.slice (some ⟨gw, 0, none⟩) t.length cw, .slice ca zs.length cc] W fun e w' => ∃ xa xc, e = .returned (.tuple #[.slice xa (lnL t zs).length xc, .int .i64 (lnB t zs), .int .i64 (askI t zs)]) ∧ Own y.heap.size w' (.slice xa (lnL t zs).length xc) (lnL t zs) ∧ Below y.heap.size y w') ∧ (Calls Try.prog 7 #[.slice (some ⟨gw, 0, none⟩) t.length cw, .slice ca zs.length cc] W fun e w' => ∃ xa xc, e = .returned (.tuple #[.slice xa (shL t zs).length xc, .int .i64 (askI t zs)]) ∧ Own y.heap.size w' (.slice xa (shL t zs).length xc) (shL t zs) ∧ Below y.heap.size y w') ∧ (Calls Try.prog 8 #[.slice (some ⟨gw, 0, none⟩) t.length cw, .slice ca zs.length cc] W fun e w' => e = .returned (.tuple #[.int .i64 ((lvsI t zs).1), .int .i64 ((lvsI t zs).2)]) ∧ Below y.heap.size y w') ∧ (Calls Try.prog 9 #[.slice (some ⟨gw, 0, none⟩) t.length cw] W fun e w' => e = .returned (.bool (frmE t)) ∧ Below y.heap.size y w')) := fun y hy W hW => by
    have hk := HS.out W (Below.step hy hW)
    exact ⟨(lnK_any _ _ _ _ W hk.ri hk.rc).mono (fun e w' ⟨xa, xc, q1, q2, q3⟩ => ⟨xa, xc, q1, q2.mono hW.size, Below.step hW q3⟩), (shK_any _ _ _ _ W hk.ri hk.rc).mono (fun e w' ⟨xa, xc, q1, q2, q3⟩ => ⟨xa, xc, q1, q2.mono hW.size, Below.step hW q3⟩), (levels_any _ _ _ _ W hk.ri hk.rc).mono (fun e w' ⟨q1, q3⟩ => ⟨q1, Below.step hW q3⟩), (l15Formed_any _ _ W hk.ri).mono (fun e w' ⟨q1, q3⟩ => ⟨q1, Below.step hW q3⟩)⟩
  have HCtU : Hid (∀ (y : World), Below y0.heap.size y0 y → ∀ W, Below y.heap.size y W → (Calls Try.prog 14 #[.slice ta t.length tc, .slice za zs.length zc] W fun e w' => ∃ xa xc, e = .returned (.tuple #[.slice xa (lnL t zs).length xc, .int .i64 (lnB t zs), .int .i64 (askI t zs)]) ∧ Own y.heap.size w' (.slice xa (lnL t zs).length xc) (lnL t zs) ∧ Below y.heap.size y w') ∧ (Calls Try.prog 15 #[.slice ta t.length tc, .slice za zs.length zc] W fun e w' => ∃ xa xc, e = .returned (.tuple #[.slice xa (shL t zs).length xc, .int .i64 (askI t zs)]) ∧ Own y.heap.size w' (.slice xa (shL t zs).length xc) (shL t zs) ∧ Below y.heap.size y w') ∧ (Calls Try.prog 16 #[.slice ta t.length tc, .slice za zs.length zc] W fun e w' => e = .returned (.tuple #[.int .i64 ((lvsI t zs).1), .int .i64 ((lvsI t zs).2)]) ∧ Below y.heap.size y w') ∧ (Calls Try.prog 17 #[.slice ta t.length tc] W fun e w' => e = .returned (.bool (frmE t)) ∧ Below y.heap.size y w')) := fun y hy W hW => by
    have hk := HS.out W (Below.step hy hW)
    exact ⟨(rlK_any _ _ _ _ W hk.rT hk.rC).mono (fun e w' ⟨xa, xc, q1, q2, q3⟩ => ⟨xa, xc, q1, q2.mono hW.size, Below.step hW q3⟩), (rsK_any _ _ _ _ W hk.rT hk.rC).mono (fun e w' ⟨xa, xc, q1, q2, q3⟩ => ⟨xa, xc, q1, q2.mono hW.size, Below.step hW q3⟩), (rLevels_any _ _ _ _ W hk.rT hk.rC).mono (fun e w' ⟨q1, q3⟩ => ⟨q1, Below.step hW q3⟩), (r15Formed_any _ _ W hk.rT).mono (fun e w' ⟨q1, m, q3⟩ => ⟨q1, by rw [q3]; exact Below.step hW (below_drewN _ _)⟩)⟩
  have HCtV : Hid (∀ (y W : World) (q r : Value), Below y.heap.size y W → RdE W q us → Rd W r ds → (Calls Try.prog 6 #[q, r] W fun e w' => ∃ xa xc, e = .returned (.tuple #[.slice xa (lnL us ds).length xc, .int .i64 (lnB us ds), .int .i64 (askI us ds)]) ∧ Own y.heap.size w' (.slice xa (lnL us ds).length xc) (lnL us ds) ∧ Below y.heap.size y w') ∧ (Calls Try.prog 7 #[q, r] W fun e w' => ∃ xa xc, e = .returned (.tuple #[.slice xa (shL us ds).length xc, .int .i64 (askI us ds)]) ∧ Own y.heap.size w' (.slice xa (shL us ds).length xc) (shL us ds) ∧ Below y.heap.size y w')) := fun y W q r hW hq hr => ⟨(lnK_any _ _ _ _ W hq hr).mono (fun e w' ⟨xa, xc, q1, q2, q3⟩ => ⟨xa, xc, q1, q2.mono hW.size, Below.step hW q3⟩), (shK_any _ _ _ _ W hq hr).mono (fun e w' ⟨xa, xc, q1, q2, q3⟩ => ⟨xa, xc, q1, q2.mono hW.size, Below.step hW q3⟩)⟩
  generalize lnL t zs = K1 at *
  generalize shL t zs = S1 at *
  generalize lnL us ds = K3 at *
  generalize shL us ds = S3 at *
  generalize lnB t zs = b1 at *
  generalize askI t zs = a1 at *
  generalize (lvsI t zs).1 = n1 at *
  generalize (lvsI t zs).2 = m1 at *
  generalize lnB us ds = b3 at *
  generalize askI us ds = a3 at *
  have B0 : Hid (Below y0.heap.size y0 y0) := Below.refl _ _
  have A0 : Hid (An y0.heap.size y0 []) := An.nil _ _
  have HBy : Hid (∀ y, Below y0.heap.size y0 y → y0.heap.size ≤ y.heap.size) := fun y hy => hy.size
  go_upto_region 3 with fail
  have T1 : Hid (∀ W, Below y0.heap.size y0 W → Below y0.heap.size y0 W ∧ W.cell? ⟨X, 0, none⟩ = some (.slice (some ⟨gw, 0, none⟩) t.length cw) ∧ W.cell? ⟨P, 2, none⟩ = some (.slice za zs.length zc)) := fun W hW => ⟨hW, (HS.out W (Below.step B0.out hW)).x0, (HS.out W (Below.step B0.out hW)).p2⟩
  have x0 := (T1.out y0 (Below.refl _ _)).2.1
  have p2 := (T1.out y0 (Below.refl _ _)).2.2
  go_cut [5, 6, 7] from 42 to 53 (fun u0 u1 u2 wx => ∃ la lc, u0 = .slice la (K1).length lc ∧ u1 = .int .i64 (b1) ∧ u2 = .int .i64 (a1) ∧ Own y0.heap.size wx (.slice la (K1).length lc) (K1) ∧ Below y0.heap.size y0 wx)
  case first =>
    go_region_held (fun W => Below y0.heap.size y0 W ∧ W.cell? ⟨X, 0, none⟩ = some (.slice (some ⟨gw, 0, none⟩) t.length cw) ∧ W.cell? ⟨P, 2, none⟩ = some (.slice za zs.length zc)) (first | exact T1.out _ (Below.refl _ _).drew | exact T1.out _ G1.out.2) (first | (go_at_call 6; refine ((HCtr.out y0 B0.out _ (Below.refl _ _).drew).1).mono ?_; rintro e y1 ⟨l1a, l1c, rfl, ho, hb9⟩; have G1 : Hid (Own y0.heap.size y1 (.slice l1a (K1).length l1c) (K1) ∧ Below y0.heap.size y0 y1) := ⟨ho, hb9⟩; clear ho hb9))
    go_wp2_with fail
    go_meet
    exact ⟨_, _, rfl, rfl, rfl, G1.out.1, G1.out.2⟩
  case rest =>
  clear x0 p2 T1
  generalize wc = y1 at *
  obtain ⟨l1a, l1c, rfl, rfl, rfl, ho, hb9⟩ := hcut
  have G1 : Hid (Own y0.heap.size y1 (.slice l1a (K1).length l1c) (K1) ∧ Below y0.heap.size y0 y1) := ⟨ho, hb9⟩
  clear ho hb9
  have B1 : Hid (Below y0.heap.size y0 y1) := Below.step B0.out G1.out.2
  have A1 : Hid (An y0.heap.size y1 [(.slice l1a (K1).length l1c, K1)]) := A0.out.add G1.out.2 G1.out.1 (HBy.out y0 B0.out)
  clear A0 G1
  go_upto_region 4 with fail
  have T2 : Hid (∀ W, Below y1.heap.size y1 W → Below y1.heap.size y1 W ∧ W.cell? ⟨X, 0, none⟩ = some (.slice (some ⟨gw, 0, none⟩) t.length cw) ∧ W.cell? ⟨P, 2, none⟩ = some (.slice za zs.length zc)) := fun W hW => ⟨hW, (HS.out W (Below.step B1.out hW)).x0, (HS.out W (Below.step B1.out hW)).p2⟩
  have x0 := (T2.out y1 (Below.refl _ _)).2.1
  have p2 := (T2.out y1 (Below.refl _ _)).2.2
  go_cut [8, 9] from 54 to 64 (fun u0 u1 wx => ∃ la lc, u0 = .slice la (S1).length lc ∧ u1 = .int .i64 (a1) ∧ Own y1.heap.size wx (.slice la (S1).length lc) (S1) ∧ Below y1.heap.size y1 wx)
  case first =>
    go_region_held (fun W => Below y1.heap.size y1 W ∧ W.cell? ⟨X, 0, none⟩ = some (.slice (some ⟨gw, 0, none⟩) t.length cw) ∧ W.cell? ⟨P, 2, none⟩ = some (.slice za zs.length zc)) (first | exact T2.out _ (Below.refl _ _).drew | exact T2.out _ G2.out.2) (first | (go_at_call 7; refine ((HCtr.out y1 B1.out _ (Below.refl _ _).drew).2.1).mono ?_; rintro e y2 ⟨l2a, l2c, rfl, ho, hb9⟩; have G2 : Hid (Own y1.heap.size y2 (.slice l2a (S1).length l2c) (S1) ∧ Below y1.heap.size y1 y2) := ⟨ho, hb9⟩; clear ho hb9))
    go_wp2_with fail
    go_meet
    exact ⟨_, _, rfl, rfl, G2.out.1, G2.out.2⟩
  case rest =>
  clear x0 p2 T2
  generalize wc = y2 at *
  obtain ⟨l2a, l2c, rfl, rfl, ho, hb9⟩ := hcut
  have G2 : Hid (Own y1.heap.size y2 (.slice l2a (S1).length l2c) (S1) ∧ Below y1.heap.size y1 y2) := ⟨ho, hb9⟩
  clear ho hb9
  have B2 : Hid (Below y0.heap.size y0 y2) := Below.step B1.out G2.out.2
  have A2 : Hid (An y0.heap.size y2 [(.slice l1a (K1).length l1c, K1), (.slice l2a (S1).length l2c, S1)]) := A1.out.add G2.out.2 G2.out.1 (HBy.out y1 B1.out)
  clear A1 G2
  go_upto_region 5 with fail
  have T3 : Hid (∀ W, Below y2.heap.size y2 W → Below y2.heap.size y2 W ∧ W.cell? ⟨X, 0, none⟩ = some (.slice (some ⟨gw, 0, none⟩) t.length cw) ∧ W.cell? ⟨P, 2, none⟩ = some (.slice za zs.length zc)) := fun W hW => ⟨hW, (HS.out W (Below.step B2.out hW)).x0, (HS.out W (Below.step B2.out hW)).p2⟩
  have x0 := (T3.out y2 (Below.refl _ _)).2.1
  have p2 := (T3.out y2 (Below.refl _ _)).2.2
  go_cut [10, 11] from 65 to 75 (fun u0 u1 wx => u0 = .int .i64 (n1) ∧ u1 = .int .i64 (m1) ∧ Below y2.heap.size y2 wx)
  case first =>
    go_region_held (fun W => Below y2.heap.size y2 W ∧ W.cell? ⟨X, 0, none⟩ = some (.slice (some ⟨gw, 0, none⟩) t.length cw) ∧ W.cell? ⟨P, 2, none⟩ = some (.slice za zs.length zc)) (first | exact T3.out _ (Below.refl _ _).drew | exact T3.out _ G3.out) (first | (go_at_call 8; refine ((HCtr.out y2 B2.out _ (Below.refl _ _).drew).2.2.1).mono ?_; rintro e y3 ⟨rfl, hb9⟩; have G3 : Hid (Below y2.heap.size y2 y3) := hb9; clear hb9))
    go_wp2_with fail
    go_meet
    exact ⟨rfl, rfl, G3.out⟩
  case rest =>
  clear x0 p2 T3
  generalize wc = y3 at *
  obtain ⟨rfl, rfl, hb9⟩ := hcut
  have G3 : Hid (Below y2.heap.size y2 y3) := hb9
  clear hb9
  have B3 : Hid (Below y0.heap.size y0 y3) := Below.step B2.out G3.out
  have A3 : Hid (An y0.heap.size y3 [(.slice l1a (K1).length l1c, K1), (.slice l2a (S1).length l2c, S1)]) := A2.out.below G3.out
  clear A2 G3
  have x0 := (HS.out y3 B3.out).x0
  go_upto_region 7 with (first
    | (go_at_call 9; refine ((HCtr.out y3 B3.out _ (Below.refl _ _)).2.2.2).mono ?_; rintro e y4 ⟨rfl, hb9⟩; have G4 : Hid (Below y3.heap.size y3 y4) := hb9; clear hb9))
  clear x0
  have B4 : Hid (Below y0.heap.size y0 y4) := Below.step B3.out G4.out
  have A4 : Hid (An y0.heap.size y4 [(.slice l1a (K1).length l1c, K1), (.slice l2a (S1).length l2c, S1)]) := A3.out.below G4.out
  clear A3 G4
  have HKe : Hid (Calls Try.prog 10 #[.agg #[.slice (some ⟨gw, 0, none⟩) t.length cw, .slice (some ⟨gw, 0, none⟩) (t.length + 64) cw, .slice ar t.length cr], .slice ta t.length tc] y4 fun e w' => e = .returned (.bool true) ∧ Below y4.heap.size y4 w') := keptEntries_any _ _ _ _ _ t L y4 (HKt.out y4 B4.out).1 (HS.out y4 B4.out).rT (by omega)
  have HKq : Hid (∀ W, Below y4.heap.size y4 W → Calls Try.prog 11 #[.slice ca (zs.length + 64) cc, .slice za zs.length zc] W fun e w' => e = .returned (.bool true) ∧ Below y4.heap.size y4 w') := fun W hW => (kept_any wx.heap.size _ _ zs W ((HKt.out W (Below.step B4.out hW)).2.1) ((HS.out W (Below.step B4.out hW)).rC)).mono fun e w' ⟨q1, q2⟩ => ⟨q1, Below.step hW q2⟩
  have HLd : Hid (∀ W, Below y4.heap.size y4 W → W.cell? ⟨P, 2, none⟩ = some (.slice za zs.length zc)) := fun W hW => (HS.out W (Below.step B4.out hW)).p2
  have x0 := (HS.out y4 B4.out).x0
  have x1 := (HS.out y4 B4.out).x1
  have x2 := (HS.out y4 B4.out).x2
  have p0 := (HS.out y4 B4.out).p0
  go_upto_region 9 with (first
    | (go_at_call 10; refine HKe.out.mono ?_; rintro e y5 ⟨rfl, hb9⟩; have G5 : Hid (Below y4.heap.size y4 y5) := hb9; have p2 := HLd.out _ hb9; clear hb9)
    | (go_at_call 11; refine (HKq.out _ G5.out).mono ?_; rintro e y6 ⟨rfl, hb9⟩; have G6 : Hid (Below y4.heap.size y4 y6) := hb9; clear hb9 p2))
  clear x0 x1 x2 p0
  clear HKe HKq HLd
  have B6 : Hid (Below y0.heap.size y0 y6) := Below.step B4.out G6.out
  have A6 : Hid (An y0.heap.size y6 [(.slice l1a (K1).length l1c, K1), (.slice l2a (S1).length l2c, S1)]) := A4.out.below G6.out
  clear A4 G5 G6
  go_upto_region 9 with fail
  have T7 : Hid (∀ W, Below y6.heap.size y6 W → Below y6.heap.size y6 W ∧ W.cell? ⟨P, 1, none⟩ = some (.slice ua us.length uc) ∧ W.cell? ⟨P, 3, none⟩ = some (.slice da ds.length dc)) := fun W hW => ⟨hW, (HS.out W (Below.step B6.out hW)).p1, (HS.out W (Below.step B6.out hW)).p3⟩
  have p1 := (T7.out y6 (Below.refl _ _)).2.1
  have p3 := (T7.out y6 (Below.refl _ _)).2.2
  have HCe : Hid (∀ W, Below y6.heap.size y6 W → Calls Try.prog 12 #[.slice ua us.length uc] W fun e w' => ∃ q, e = .returned q ∧ RdE w' q us ∧ Below y6.heap.size y6 w') := fun W hW => (copyEntries_any _ us W (HS.out W (Below.step B6.out hW)).rU).mono fun e w' ⟨q, q1, q2, q3⟩ => ⟨q, q1, q2.rde hu40 hu8, Below.step hW q3⟩
  have HCi : Hid (∀ W, Below y6.heap.size y6 W → Calls Try.prog 13 #[.slice da ds.length dc] W fun e w' => ∃ q, e = .returned q ∧ Rd w' q ds ∧ Below W.heap.size W w') := fun W hW => (copyInts_any _ ds W (HS.out W (Below.step B6.out hW)).rD).mono fun e w' ⟨q, q1, q2, q3⟩ => ⟨q, q1, q2.rd hld, q3⟩
  go_cut [13, 14, 15] from 91 to 101 (fun u0 u1 u2 wx => ∃ la lc, u0 = .slice la (K3).length lc ∧ u1 = .int .i64 (b3) ∧ u2 = .int .i64 (a3) ∧ Own y6.heap.size wx (.slice la (K3).length lc) (K3) ∧ Below y6.heap.size y6 wx)
  case first =>
    go_region_held (fun W => Below y6.heap.size y6 W ∧ W.cell? ⟨P, 1, none⟩ = some (.slice ua us.length uc) ∧ W.cell? ⟨P, 3, none⟩ = some (.slice da ds.length dc)) (first | exact T7.out _ (Below.refl _ _).drew | exact T7.out _ G7.out.2 | exact T7.out _ D2.out.2.2 | exact T7.out _ D1.out.2) (first
      | (have qq := D2.out; go_at_call 6; refine ((HCtV.out y6 _ _ _ D2.out.2.2 D2.out.1 D2.out.2.1).1).mono ?_; rintro e y7 ⟨l7a, l7c, rfl, ho, hb9⟩; have G7 : Hid (Own y6.heap.size y7 (.slice l7a (K3).length l7c) (K3) ∧ Below y6.heap.size y6 y7) := ⟨ho, hb9⟩; clear ho hb9 qq)
      | (have qq := D1.out; go_at_call 13; refine (HCi.out _ D1.out.2).mono ?_; rintro e d2 ⟨q2, rfl, hq, hb9⟩; have D2 : Hid (RdE d2 q1 us ∧ Rd d2 q2 ds ∧ Below y6.heap.size y6 d2) := ⟨D1.out.1.below hb9, hq, Below.step D1.out.2 hb9⟩; clear hq hb9 qq)
      | (go_at_call 12; refine (HCe.out _ (Below.refl _ _).drew).mono ?_; rintro e d1 ⟨q1, rfl, hq, hb9⟩; have D1 : Hid (RdE d1 q1 us ∧ Below y6.heap.size y6 d1) := ⟨hq, hb9⟩; clear hq hb9))
    go_wp2_with fail
    go_meet
    exact ⟨_, _, rfl, rfl, rfl, G7.out.1, G7.out.2⟩
  case rest =>
  clear p1 p3 T7 HCe HCi
  generalize wc = y7 at *
  obtain ⟨l7a, l7c, rfl, rfl, rfl, ho, hb9⟩ := hcut
  have G7 : Hid (Own y6.heap.size y7 (.slice l7a (K3).length l7c) (K3) ∧ Below y6.heap.size y6 y7) := ⟨ho, hb9⟩
  clear ho hb9
  have B7 : Hid (Below y0.heap.size y0 y7) := Below.step B6.out G7.out.2
  have A7 : Hid (An y0.heap.size y7 [(.slice l1a (K1).length l1c, K1), (.slice l2a (S1).length l2c, S1), (.slice l7a (K3).length l7c, K3)]) := A6.out.add G7.out.2 G7.out.1 (HBy.out y6 B6.out)
  clear A6 G7
  go_upto_region 10 with fail
  have T8 : Hid (∀ W, Below y7.heap.size y7 W → Below y7.heap.size y7 W ∧ W.cell? ⟨P, 1, none⟩ = some (.slice ua us.length uc) ∧ W.cell? ⟨P, 3, none⟩ = some (.slice da ds.length dc)) := fun W hW => ⟨hW, (HS.out W (Below.step B7.out hW)).p1, (HS.out W (Below.step B7.out hW)).p3⟩
  have p1 := (T8.out y7 (Below.refl _ _)).2.1
  have p3 := (T8.out y7 (Below.refl _ _)).2.2
  have HCe : Hid (∀ W, Below y7.heap.size y7 W → Calls Try.prog 12 #[.slice ua us.length uc] W fun e w' => ∃ q, e = .returned q ∧ RdE w' q us ∧ Below y7.heap.size y7 w') := fun W hW => (copyEntries_any _ us W (HS.out W (Below.step B7.out hW)).rU).mono fun e w' ⟨q, q1, q2, q3⟩ => ⟨q, q1, q2.rde hu40 hu8, Below.step hW q3⟩
  have HCi : Hid (∀ W, Below y7.heap.size y7 W → Calls Try.prog 13 #[.slice da ds.length dc] W fun e w' => ∃ q, e = .returned q ∧ Rd w' q ds ∧ Below W.heap.size W w') := fun W hW => (copyInts_any _ ds W (HS.out W (Below.step B7.out hW)).rD).mono fun e w' ⟨q, q1, q2, q3⟩ => ⟨q, q1, q2.rd hld, q3⟩
  go_cut [16, 17] from 102 to 111 (fun u0 u1 wx => ∃ la lc, u0 = .slice la (S3).length lc ∧ u1 = .int .i64 (a3) ∧ Own y7.heap.size wx (.slice la (S3).length lc) (S3) ∧ Below y7.heap.size y7 wx)
  case first =>
    go_region_held (fun W => Below y7.heap.size y7 W ∧ W.cell? ⟨P, 1, none⟩ = some (.slice ua us.length uc) ∧ W.cell? ⟨P, 3, none⟩ = some (.slice da ds.length dc)) (first | exact T8.out _ (Below.refl _ _).drew | exact T8.out _ G8.out.2 | exact T8.out _ D2.out.2.2 | exact T8.out _ D1.out.2) (first
      | (have qq := D2.out; go_at_call 7; refine ((HCtV.out y7 _ _ _ D2.out.2.2 D2.out.1 D2.out.2.1).2).mono ?_; rintro e y8 ⟨l8a, l8c, rfl, ho, hb9⟩; have G8 : Hid (Own y7.heap.size y8 (.slice l8a (S3).length l8c) (S3) ∧ Below y7.heap.size y7 y8) := ⟨ho, hb9⟩; clear ho hb9 qq)
      | (have qq := D1.out; go_at_call 13; refine (HCi.out _ D1.out.2).mono ?_; rintro e d2 ⟨q2, rfl, hq, hb9⟩; have D2 : Hid (RdE d2 q1 us ∧ Rd d2 q2 ds ∧ Below y7.heap.size y7 d2) := ⟨D1.out.1.below hb9, hq, Below.step D1.out.2 hb9⟩; clear hq hb9 qq)
      | (go_at_call 12; refine (HCe.out _ (Below.refl _ _).drew).mono ?_; rintro e d1 ⟨q1, rfl, hq, hb9⟩; have D1 : Hid (RdE d1 q1 us ∧ Below y7.heap.size y7 d1) := ⟨hq, hb9⟩; clear hq hb9))
    go_wp2_with fail
    go_meet
    exact ⟨_, _, rfl, rfl, G8.out.1, G8.out.2⟩
  case rest =>
  clear p1 p3 T8 HCe HCi
  generalize wc = y8 at *
  obtain ⟨l8a, l8c, rfl, rfl, ho, hb9⟩ := hcut
  have G8 : Hid (Own y7.heap.size y8 (.slice l8a (S3).length l8c) (S3) ∧ Below y7.heap.size y7 y8) := ⟨ho, hb9⟩
  clear ho hb9
  have B8 : Hid (Below y0.heap.size y0 y8) := Below.step B7.out G8.out.2
  have A8 : Hid (An y0.heap.size y8 [(.slice l1a (K1).length l1c, K1), (.slice l2a (S1).length l2c, S1), (.slice l7a (K3).length l7c, K3), (.slice l8a (S3).length l8c, S3)]) := A7.out.add G8.out.2 G8.out.1 (HBy.out y7 B7.out)
  clear A7 G8
  go_upto_region 11 with fail
  have T9 : Hid (∀ W, Below y8.heap.size y8 W → Below y8.heap.size y8 W ∧ W.cell? ⟨X, 0, none⟩ = some (.slice (some ⟨gw, 0, none⟩) t.length cw) ∧ W.cell? ⟨P, 2, none⟩ = some (.slice za zs.length zc)) := fun W hW => ⟨hW, (HS.out W (Below.step B8.out hW)).x0, (HS.out W (Below.step B8.out hW)).p2⟩
  have x0 := (T9.out y8 (Below.refl _ _)).2.1
  have p2 := (T9.out y8 (Below.refl _ _)).2.2
  go_cut [18, 19, 20] from 112 to 123 (fun u0 u1 u2 wx => ∃ la lc, u0 = .slice la (K1).length lc ∧ u1 = .int .i64 (b1) ∧ u2 = .int .i64 (a1) ∧ Own y8.heap.size wx (.slice la (K1).length lc) (K1) ∧ Below y8.heap.size y8 wx)
  case first =>
    go_region_held (fun W => Below y8.heap.size y8 W ∧ W.cell? ⟨X, 0, none⟩ = some (.slice (some ⟨gw, 0, none⟩) t.length cw) ∧ W.cell? ⟨P, 2, none⟩ = some (.slice za zs.length zc)) (first | exact T9.out _ (Below.refl _ _).drew | exact T9.out _ G9.out.2) (first | (go_at_call 6; refine ((HCtr.out y8 B8.out _ (Below.refl _ _).drew).1).mono ?_; rintro e y9 ⟨l9a, l9c, rfl, ho, hb9⟩; have G9 : Hid (Own y8.heap.size y9 (.slice l9a (K1).length l9c) (K1) ∧ Below y8.heap.size y8 y9) := ⟨ho, hb9⟩; clear ho hb9))
    go_wp2_with fail
    go_meet
    exact ⟨_, _, rfl, rfl, rfl, G9.out.1, G9.out.2⟩
  case rest =>
  clear x0 p2 T9
  generalize wc = y9 at *
  obtain ⟨l9a, l9c, rfl, rfl, rfl, ho, hb9⟩ := hcut
  have G9 : Hid (Own y8.heap.size y9 (.slice l9a (K1).length l9c) (K1) ∧ Below y8.heap.size y8 y9) := ⟨ho, hb9⟩
  clear ho hb9
  have B9 : Hid (Below y0.heap.size y0 y9) := Below.step B8.out G9.out.2
  have A9 : Hid (An y0.heap.size y9 [(.slice l1a (K1).length l1c, K1), (.slice l2a (S1).length l2c, S1), (.slice l7a (K3).length l7c, K3), (.slice l8a (S3).length l8c, S3), (.slice l9a (K1).length l9c, K1)]) := A8.out.add G9.out.2 G9.out.1 (HBy.out y8 B8.out)
  clear A8 G9
  go_upto_region 12 with fail
  have T10 : Hid (∀ W, Below y9.heap.size y9 W → Below y9.heap.size y9 W ∧ W.cell? ⟨X, 0, none⟩ = some (.slice (some ⟨gw, 0, none⟩) t.length cw) ∧ W.cell? ⟨P, 2, none⟩ = some (.slice za zs.length zc)) := fun W hW => ⟨hW, (HS.out W (Below.step B9.out hW)).x0, (HS.out W (Below.step B9.out hW)).p2⟩
  have x0 := (T10.out y9 (Below.refl _ _)).2.1
  have p2 := (T10.out y9 (Below.refl _ _)).2.2
  go_cut [21, 22] from 124 to 134 (fun u0 u1 wx => ∃ la lc, u0 = .slice la (S1).length lc ∧ u1 = .int .i64 (a1) ∧ Own y9.heap.size wx (.slice la (S1).length lc) (S1) ∧ Below y9.heap.size y9 wx)
  case first =>
    go_region_held (fun W => Below y9.heap.size y9 W ∧ W.cell? ⟨X, 0, none⟩ = some (.slice (some ⟨gw, 0, none⟩) t.length cw) ∧ W.cell? ⟨P, 2, none⟩ = some (.slice za zs.length zc)) (first | exact T10.out _ (Below.refl _ _).drew | exact T10.out _ G10.out.2) (first | (go_at_call 7; refine ((HCtr.out y9 B9.out _ (Below.refl _ _).drew).2.1).mono ?_; rintro e y10 ⟨l10a, l10c, rfl, ho, hb9⟩; have G10 : Hid (Own y9.heap.size y10 (.slice l10a (S1).length l10c) (S1) ∧ Below y9.heap.size y9 y10) := ⟨ho, hb9⟩; clear ho hb9))
    go_wp2_with fail
    go_meet
    exact ⟨_, _, rfl, rfl, G10.out.1, G10.out.2⟩
  case rest =>
  clear x0 p2 T10
  generalize wc = y10 at *
  obtain ⟨l10a, l10c, rfl, rfl, ho, hb9⟩ := hcut
  have G10 : Hid (Own y9.heap.size y10 (.slice l10a (S1).length l10c) (S1) ∧ Below y9.heap.size y9 y10) := ⟨ho, hb9⟩
  clear ho hb9
  have B10 : Hid (Below y0.heap.size y0 y10) := Below.step B9.out G10.out.2
  have A10 : Hid (An y0.heap.size y10 [(.slice l1a (K1).length l1c, K1), (.slice l2a (S1).length l2c, S1), (.slice l7a (K3).length l7c, K3), (.slice l8a (S3).length l8c, S3), (.slice l9a (K1).length l9c, K1), (.slice l10a (S1).length l10c, S1)]) := A9.out.add G10.out.2 G10.out.1 (HBy.out y9 B9.out)
  clear A9 G10
  have p0 := (HS.out y10 B10.out).p0
  have p2 := (HS.out y10 B10.out).p2
  go_upto_region 14 with (first
    | (go_at_call 14; refine ((HCtU.out y10 B10.out _ (Below.refl _ _)).1).mono ?_; rintro e y11 ⟨l11a, l11c, rfl, ho, hb9⟩; have G11 : Hid (Own y10.heap.size y11 (.slice l11a (K1).length l11c) (K1) ∧ Below y10.heap.size y10 y11) := ⟨ho, hb9⟩; clear ho hb9))
  clear p0 p2
  have B11 : Hid (Below y0.heap.size y0 y11) := Below.step B10.out G11.out.2
  have A11 : Hid (An y0.heap.size y11 [(.slice l1a (K1).length l1c, K1), (.slice l2a (S1).length l2c, S1), (.slice l7a (K3).length l7c, K3), (.slice l8a (S3).length l8c, S3), (.slice l9a (K1).length l9c, K1), (.slice l10a (S1).length l10c, S1), (.slice l11a (K1).length l11c, K1)]) := A10.out.add G11.out.2 G11.out.1 (HBy.out y10 B10.out)
  clear A10 G11
  have p0 := (HS.out y11 B11.out).p0
  have p2 := (HS.out y11 B11.out).p2
  go_upto_region 15 with (first
    | (go_at_call 15; refine ((HCtU.out y11 B11.out _ (Below.refl _ _)).2.1).mono ?_; rintro e y12 ⟨l12a, l12c, rfl, ho, hb9⟩; have G12 : Hid (Own y11.heap.size y12 (.slice l12a (S1).length l12c) (S1) ∧ Below y11.heap.size y11 y12) := ⟨ho, hb9⟩; clear ho hb9))
  clear p0 p2
  have B12 : Hid (Below y0.heap.size y0 y12) := Below.step B11.out G12.out.2
  have A12 : Hid (An y0.heap.size y12 [(.slice l1a (K1).length l1c, K1), (.slice l2a (S1).length l2c, S1), (.slice l7a (K3).length l7c, K3), (.slice l8a (S3).length l8c, S3), (.slice l9a (K1).length l9c, K1), (.slice l10a (S1).length l10c, S1), (.slice l11a (K1).length l11c, K1), (.slice l12a (S1).length l12c, S1)]) := A11.out.add G12.out.2 G12.out.1 (HBy.out y11 B11.out)
  clear A11 G12
  have p0 := (HS.out y12 B12.out).p0
  have p2 := (HS.out y12 B12.out).p2
  go_upto_region 16 with (first
    | (go_at_call 16; refine ((HCtU.out y12 B12.out _ (Below.refl _ _)).2.2.1).mono ?_; rintro e y13 ⟨rfl, hb9⟩; have G13 : Hid (Below y12.heap.size y12 y13) := hb9; clear hb9))
  clear p0 p2
  have B13 : Hid (Below y0.heap.size y0 y13) := Below.step B12.out G13.out
  have A13 : Hid (An y0.heap.size y13 [(.slice l1a (K1).length l1c, K1), (.slice l2a (S1).length l2c, S1), (.slice l7a (K3).length l7c, K3), (.slice l8a (S3).length l8c, S3), (.slice l9a (K1).length l9c, K1), (.slice l10a (S1).length l10c, S1), (.slice l11a (K1).length l11c, K1), (.slice l12a (S1).length l12c, S1)]) := A12.out.below G13.out
  clear A12 G13
  have HSm : Hid (∀ W, Below y13.heap.size y13 W → (Calls Try.prog 18 #[.slice l9a (K1).length l9c, .slice l11a (K1).length l11c] W fun e w' => e = .returned (.bool true) ∧ Below y13.heap.size y13 w') ∧ (Calls Try.prog 18 #[.slice l10a (S1).length l10c, .slice l12a (S1).length l12c] W fun e w' => e = .returned (.bool true) ∧ Below y13.heap.size y13 w')) := fun W hW => ⟨(sameInts_any _ _ _ _ W (((A13.out.below hW).at (i := 4) rfl).rd (by omega)) (((A13.out.below hW).at (i := 6) rfl).rd (by omega))).mono (fun e w' h => ⟨by rw [h.1]; simp, Below.step hW h.2⟩), (sameInts_any _ _ _ _ W (((A13.out.below hW).at (i := 5) rfl).rd (by omega)) (((A13.out.below hW).at (i := 7) rfl).rd (by omega))).mono (fun e w' h => ⟨by rw [h.1]; simp, Below.step hW h.2⟩)⟩
  have p0 := (HS.out y13 B13.out).p0
  go_upto_region 18 with (first
    | (have qq := G15.out; go_at_call 18; refine ((HSm.out _ G15.out).2).mono ?_; rintro e y16 ⟨rfl, hb9⟩; have G16 : Hid (Below y13.heap.size y13 y16) := hb9; clear hb9 qq)
    | (have qq := G14.out; go_at_call 18; refine ((HSm.out _ G14.out).1).mono ?_; rintro e y15 ⟨rfl, hb9⟩; have G15 : Hid (Below y13.heap.size y13 y15) := hb9; clear hb9 qq)
    | (go_at_call 17; refine ((HCtU.out y13 B13.out _ (Below.refl _ _)).2.2.2).mono ?_; rintro e y14 ⟨rfl, hb9⟩; have G14 : Hid (Below y13.heap.size y13 y14) := hb9; clear hb9))
  clear p0
  have B16 : Hid (Below y0.heap.size y0 y16) := Below.step B13.out G16.out
  have A16 : Hid (An y0.heap.size y16 [(.slice l1a (K1).length l1c, K1), (.slice l2a (S1).length l2c, S1), (.slice l7a (K3).length l7c, K3), (.slice l8a (S3).length l8c, S3), (.slice l9a (K1).length l9c, K1), (.slice l10a (S1).length l10c, S1), (.slice l11a (K1).length l11c, K1), (.slice l12a (S1).length l12c, S1)]) := A13.out.below G16.out
  clear A13 HSm
  have HOe : Hid (Calls Try.prog 19 #[.agg #[.slice (some ⟨gw, 0, none⟩) t.length cw, .slice (some ⟨gw, 0, none⟩) (t.length + 64) cw, .slice ar t.length cr]] y16 fun e w' => e = .returned (.tuple #[]) ∧ Fx (Lwn (.slice (some ⟨gw, 0, none⟩) (t.length + 64) cw) L) y16 w' ∧ ∀ (Q : Nat → Prop) W', Fx Q w' W' → ¬ Q gw → RdE W' (.slice (some ⟨gw, 0, none⟩) t.length cw) (ovT t.length)) := by
    have hkt := (HKt.out y16 B16.out).1
    refine (overEntries_any wp.heap.size _ _ gw cw (t.length + 64) L (enW t L ++ mkE 64) y16 hkt.l hkt.whole (by omega) (by rw [hkt.len]; omega) (fun x hx => ?_) ?_).mono fun e w' ⟨q1, q2, q3⟩ => ⟨q1, q2, fun Q W' hf hq => q3 t.length (by omega) Q W' hf hq⟩
    · have h9 : x.2 ∈ L.map Prod.snd := List.mem_map_of_mem hx
      rw [hkt.ls] at h9
      obtain ⟨e, he, h10⟩ := List.mem_map.1 h9
      obtain ⟨i, hi, rfl⟩ := List.getElem_of_mem he
      have h11 := HT8.out i hi
      rw [← h10, m64_app_lenE]
      have h12 : t.getD i e0 = t[i] := by simp [List.getD_eq_getElem?_getD, hi]
      rw [h12] at h11
      omega
    · have := (HKt.out y16 B16.out).2.2.size
      have := HBs.out
      have := HBy.out y16 B16.out
      omega
  have x0 := (HS.out y16 B16.out).x0
  have x1 := (HS.out y16 B16.out).x1
  have x2 := (HS.out y16 B16.out).x2
  go_upto_region 19 with (go_at_call 19; refine HOe.out.mono ?_; rintro e v1 ⟨rfl, hfx, hrd⟩; have V1 : Hid (Fx (Lwn (.slice (some ⟨gw, 0, none⟩) (t.length + 64) cw) L) y16 v1 ∧ ∀ (Q : Nat → Prop) W', Fx Q v1 W' → ¬ Q gw → RdE W' (.slice (some ⟨gw, 0, none⟩) t.length cw) (ovT t.length)) := ⟨hfx, hrd⟩; clear hfx hrd)
  clear x0 x1 x2 HOe
  have HOc : Hid (Calls Try.prog 20 #[.slice ca (zs.length + 64) cc] v1 fun e w' => (∃ v, e = .returned v) ∧ (∃ Z, Z.length = zs.length + 64 ∧ Own wx.heap.size w' (.slice ca (zs.length + 64) cc) Z) ∧ v1.grownBy w' (Value.slice ca (zs.length + 64) cc).ownBlock) := by
    have ho : Own wx.heap.size v1 (.slice ca (zs.length + 64) cc) (zs ++ m64) := own_fx (HKt.out y16 B16.out).2.1 V1.out.1 fun k hk => by have := HXl.out k hk; have := HBs.out; omega
    have h9 := over_any wx.heap.size _ (zs ++ m64) v1 ho (by rw [m64_app_lenE]; omega)
    rw [m64_app_lenE] at h9
    exact h9
  go_upto_region 20 with (go_at_call 20; refine HOc.out.mono ?_; rintro e y17 ⟨⟨v9, rfl⟩, ⟨Z, hZl, hZ⟩, hg9⟩; have V2 : Hid (Z.length = zs.length + 64 ∧ Own wx.heap.size y17 (.slice ca (zs.length + 64) cc) Z ∧ v1.grownBy y17 (Value.slice ca (zs.length + 64) cc).ownBlock) := ⟨hZl, hZ, hg9⟩; clear hZl hZ hg9)
  clear HOc
  have HcB : Hid (∀ k, some k = (Value.slice ca (zs.length + 64) cc).ownBlock → wx.heap.size ≤ k ∧ k < y0.heap.size) := fun k hk => by
    have h9 := (HKt.out y0 (Below.refl _ _)).2.1.lt k hk.symm
    exact h9
  have HFx : Hid (Fx (fun k => Lwn (.slice (some ⟨gw, 0, none⟩) (t.length + 64) cw) L k ∨ some k = (Value.slice ca (zs.length + 64) cc).ownBlock) y16 y17) := by
    refine ⟨V2.out.2.2.os.trans V1.out.1.os, V2.out.2.2.tape.trans V1.out.1.tape, V2.out.2.2.output.trans V1.out.1.output, Nat.le_trans V1.out.1.size V2.out.2.2.size, fun k hk hn => ?_⟩
    rw [V2.out.2.2.block k (Nat.lt_of_lt_of_le hk V1.out.1.size) (fun e => hn (.inr e))]
    exact V1.out.1.block k hk (fun h => hn (.inl h))
  have HQ : Hid (∀ k, Lwn (.slice (some ⟨gw, 0, none⟩) (t.length + 64) cw) L k ∨ some k = (Value.slice ca (zs.length + 64) cc).ownBlock → wp.heap.size ≤ k ∧ k < y0.heap.size ∧ k ≠ X) := fun k hk => by
    have := HBs.out
    rcases hk with hk | hk
    · have := HXl.out k hk; omega
    · have := HcB.out k hk; omega
  have A17 : Hid (An y0.heap.size y17 [(.slice l1a (K1).length l1c, K1), (.slice l2a (S1).length l2c, S1), (.slice l7a (K3).length l7c, K3), (.slice l8a (S3).length l8c, S3), (.slice l9a (K1).length l9c, K1), (.slice l10a (S1).length l10c, S1), (.slice l11a (K1).length l11c, K1), (.slice l12a (S1).length l12c, S1)]) := A16.out.fx HFx.out fun k hk => (HQ.out k hk).2.1
  have HRi : Hid (RdE y17 (.slice (some ⟨gw, 0, none⟩) t.length cw) (ovT t.length)) := V1.out.2 (fun k => some k = (Value.slice ca (zs.length + 64) cc).ownBlock) _ (fx_of_grown V2.out.2.2) (fun h => by
    have h1 := HcB.out gw h
    have h2 := HXl.out gw (.inl rfl)
    have := HBs.out
    omega)
  obtain ⟨z2, hz2⟩ : ∃ z2, Rd y17 (.slice ca zs.length cc) z2 ∧ z2.length = zs.length := by
    refine ⟨Z.take zs.length, ?_, by rw [List.length_take]; have := V2.out.1; omega⟩
    have h1 : y17.ownsRow wx.heap.size 3 1 (.slice ca (zs.length + 64) cc) (zs.length + 64) (Z.map (Value.int .i64)) := by
      have h2 := V2.out.2.1
      unfold Own at h2
      rw [V2.out.1] at h2
      exact h2
    obtain ⟨g, rfl⟩ : ∃ g, ca = some ⟨g, 0, none⟩ := by
      rcases h1.2 with ⟨e, e2⟩ | ⟨g, cap, cur, e, _⟩
      · omega
      · injection e with e1 _ _; exact ⟨g, e1⟩
    have h3 := own_cut h1 (m := zs.length) (by omega)
    have h4 : Own wx.heap.size y17 (.slice (some ⟨g, 0, none⟩) zs.length cc) (Z.take zs.length) := by
      unfold Own
      rw [List.length_take, V2.out.1, Nat.min_eq_left (by omega), List.map_take]
      simpa using h3
    exact h4.rd (by rw [List.length_take]; omega)
  have HZ2 : Hid (Rd y17 (.slice ca zs.length cc) z2 ∧ z2.length = zs.length) := hz2
  have HS2 : Hid (∀ W, Below y17.heap.size y17 W → Ks w W P X (.slice ta t.length tc) (.slice ua us.length uc) (.slice za zs.length zc) (.slice da ds.length dc) (.slice (some ⟨gw, 0, none⟩) t.length cw) (.slice (some ⟨gw, 0, none⟩) (t.length + 64) cw) (.slice ar t.length cr) (.slice ca zs.length cc) t us zs ds (ovT t.length) z2) := fun W hW => by
    have hbW : Below wp.heap.size wp W := Below.trans (below_fx (HKt.out y16 B16.out).2.2 HFx.out (by have := (HKt.out y16 B16.out).2.2.size; exact this) (fun k hk => (HQ.out k hk).1)) (hW.mono (by have := (HKt.out y16 B16.out).2.2.size; have := HFx.out.size; omega))
    obtain ⟨q1, q2, q3, q4, q5⟩ := HP.out W hbW
    have cX : ∀ (j : Nat) (u : Value), y16.cell? ⟨X, j, none⟩ = some u → W.cell? ⟨X, j, none⟩ = some u := fun j u hu => by
      have hlt := World.block_lt_of_cell? _ _ hu
      have h1 : y17.cell? ⟨X, j, none⟩ = some u := by
        rw [← hu]
        exact cell_of_block (HFx.out.block X hlt (fun h => (HQ.out X h).2.2 rfl))
      exact (hW.cell (p := ⟨X, j, none⟩) (Nat.lt_of_lt_of_le hlt HFx.out.size)).trans h1
    have hk := HS.out y16 B16.out
    exact ⟨HRi.out.below hW, HZ2.out.1.below hW, HT.out.1.below q1, HT.out.2.1.below q1, HT.out.2.2.1.below q1, HT.out.2.2.2.below q1, q1, cX 0 _ hk.x0, cX 1 _ hk.x1, cX 2 _ hk.x2, q2, q3, q4, q5⟩
  have hl2 : z2.length * 8 ≤ 140737488351232 := by rw [hz2.2]; exact hlz
  have HBz : Hid (y0.heap.size ≤ y17.heap.size) := Nat.le_trans (HBy.out y16 B16.out) HFx.out.size
  clear hz2 HZ2 HRi HFx HQ HcB V1 V2 A16 HKt HXl HXx HCtr HCtU HCtV HBy HBs HX2
  clear B0
  have hK2 := lnL_len (ovT t.length) z2
  have hS2 := shL_len (ovT t.length) z2 hl2
  have HCtr : Hid (∀ (y : World), Below y17.heap.size y17 y → ∀ W, Below y.heap.size y W → (Calls Try.prog 6 #[.slice (some ⟨gw, 0, none⟩) t.length cw, .slice ca zs.length cc] W fun e w' => ∃ xa xc, e = .returned (.tuple #[.slice xa (lnL (ovT t.length) z2).length xc, .int .i64 (lnB (ovT t.length) z2), .int .i64 (askI (ovT t.length) z2)]) ∧ Own y.heap.size w' (.slice xa (lnL (ovT t.length) z2).length xc) (lnL (ovT t.length) z2) ∧ Below y.heap.size y w') ∧ (Calls Try.prog 7 #[.slice (some ⟨gw, 0, none⟩) t.length cw, .slice ca zs.length cc] W fun e w' => ∃ xa xc, e = .returned (.tuple #[.slice xa (shL (ovT t.length) z2).length xc, .int .i64 (askI (ovT t.length) z2)]) ∧ Own y.heap.size w' (.slice xa (shL (ovT t.length) z2).length xc) (shL (ovT t.length) z2) ∧ Below y.heap.size y w') ∧ (Calls Try.prog 8 #[.slice (some ⟨gw, 0, none⟩) t.length cw, .slice ca zs.length cc] W fun e w' => e = .returned (.tuple #[.int .i64 ((lvsI (ovT t.length) z2).1), .int .i64 ((lvsI (ovT t.length) z2).2)]) ∧ Below y.heap.size y w') ∧ (Calls Try.prog 9 #[.slice (some ⟨gw, 0, none⟩) t.length cw] W fun e w' => e = .returned (.bool (frmE (ovT t.length))) ∧ Below y.heap.size y w')) := fun y hy W hW => by
    have hk := HS2.out W (Below.step hy hW)
    exact ⟨(lnK_any _ _ _ _ W hk.ri hk.rc).mono (fun e w' ⟨xa, xc, q1, q2, q3⟩ => ⟨xa, xc, q1, q2.mono hW.size, Below.step hW q3⟩), (shK_any _ _ _ _ W hk.ri hk.rc).mono (fun e w' ⟨xa, xc, q1, q2, q3⟩ => ⟨xa, xc, q1, q2.mono hW.size, Below.step hW q3⟩), (levels_any _ _ _ _ W hk.ri hk.rc).mono (fun e w' ⟨q1, q3⟩ => ⟨q1, Below.step hW q3⟩), (l15Formed_any _ _ W hk.ri).mono (fun e w' ⟨q1, q3⟩ => ⟨q1, Below.step hW q3⟩)⟩
  have HCtU : Hid (∀ (y : World), Below y17.heap.size y17 y → ∀ W, Below y.heap.size y W → (Calls Try.prog 14 #[.slice (some ⟨gw, 0, none⟩) t.length cw, .slice ca zs.length cc] W fun e w' => ∃ xa xc, e = .returned (.tuple #[.slice xa (lnL (ovT t.length) z2).length xc, .int .i64 (lnB (ovT t.length) z2), .int .i64 (askI (ovT t.length) z2)]) ∧ Own y.heap.size w' (.slice xa (lnL (ovT t.length) z2).length xc) (lnL (ovT t.length) z2) ∧ Below y.heap.size y w') ∧ (Calls Try.prog 15 #[.slice (some ⟨gw, 0, none⟩) t.length cw, .slice ca zs.length cc] W fun e w' => ∃ xa xc, e = .returned (.tuple #[.slice xa (shL (ovT t.length) z2).length xc, .int .i64 (askI (ovT t.length) z2)]) ∧ Own y.heap.size w' (.slice xa (shL (ovT t.length) z2).length xc) (shL (ovT t.length) z2) ∧ Below y.heap.size y w') ∧ (Calls Try.prog 16 #[.slice (some ⟨gw, 0, none⟩) t.length cw, .slice ca zs.length cc] W fun e w' => e = .returned (.tuple #[.int .i64 ((lvsI (ovT t.length) z2).1), .int .i64 ((lvsI (ovT t.length) z2).2)]) ∧ Below y.heap.size y w') ∧ (Calls Try.prog 17 #[.slice (some ⟨gw, 0, none⟩) t.length cw] W fun e w' => e = .returned (.bool (frmE (ovT t.length))) ∧ Below y.heap.size y w')) := fun y hy W hW => by
    have hk := HS2.out W (Below.step hy hW)
    exact ⟨(rlK_any _ _ _ _ W hk.ri hk.rc).mono (fun e w' ⟨xa, xc, q1, q2, q3⟩ => ⟨xa, xc, q1, q2.mono hW.size, Below.step hW q3⟩), (rsK_any _ _ _ _ W hk.ri hk.rc).mono (fun e w' ⟨xa, xc, q1, q2, q3⟩ => ⟨xa, xc, q1, q2.mono hW.size, Below.step hW q3⟩), (rLevels_any _ _ _ _ W hk.ri hk.rc).mono (fun e w' ⟨q1, q3⟩ => ⟨q1, Below.step hW q3⟩), (r15Formed_any _ _ W hk.ri).mono (fun e w' ⟨q1, m, q3⟩ => ⟨q1, by rw [q3]; exact Below.step hW (below_drewN _ _)⟩)⟩
  generalize lnL (ovT t.length) z2 = K2 at *
  generalize shL (ovT t.length) z2 = S2 at *
  generalize lnB (ovT t.length) z2 = b2 at *
  generalize askI (ovT t.length) z2 = a2 at *
  generalize (lvsI (ovT t.length) z2).1 = n2 at *
  generalize (lvsI (ovT t.length) z2).2 = m2 at *
  have B17 : Hid (Below y17.heap.size y17 y17) := Below.refl _ _
  have HBy : Hid (∀ y, Below y17.heap.size y17 y → y0.heap.size ≤ y.heap.size) := fun y hy => Nat.le_trans HBz.out hy.size
  have HSm : Hid (∀ W, Below y17.heap.size y17 W → (Calls Try.prog 18 #[.slice l1a (K1).length l1c, .slice l11a (K1).length l11c] W fun e w' => e = .returned (.bool true) ∧ Below y17.heap.size y17 w') ∧ (Calls Try.prog 18 #[.slice l2a (S1).length l2c, .slice l12a (S1).length l12c] W fun e w' => e = .returned (.bool true) ∧ Below y17.heap.size y17 w')) := fun W hW => ⟨(sameInts_any _ _ _ _ W (((A17.out.below hW).at (i := 0) rfl).rd (by omega)) (((A17.out.below hW).at (i := 6) rfl).rd (by omega))).mono (fun e w' h => ⟨by rw [h.1]; simp, Below.step hW h.2⟩), (sameInts_any _ _ _ _ W (((A17.out.below hW).at (i := 1) rfl).rd (by omega)) (((A17.out.below hW).at (i := 7) rfl).rd (by omega))).mono (fun e w' h => ⟨by rw [h.1]; simp, Below.step hW h.2⟩)⟩
  go_upto_region 22 with (first
    | (have qq := G18.out; go_at_call 18; refine ((HSm.out _ G18.out).2).mono ?_; rintro e y19 ⟨rfl, hb9⟩; have G19 : Hid (Below y17.heap.size y17 y19) := hb9; clear hb9 qq)
    | (go_at_call 18; refine ((HSm.out _ (Below.refl _ _)).1).mono ?_; rintro e y18 ⟨rfl, hb9⟩; have G18 : Hid (Below y17.heap.size y17 y18) := hb9; clear hb9))
  have B19 : Hid (Below y17.heap.size y17 y19) := Below.step B17.out G19.out
  have A19 : Hid (An y0.heap.size y19 [(.slice l1a (K1).length l1c, K1), (.slice l2a (S1).length l2c, S1), (.slice l7a (K3).length l7c, K3), (.slice l8a (S3).length l8c, S3), (.slice l9a (K1).length l9c, K1), (.slice l10a (S1).length l10c, S1), (.slice l11a (K1).length l11c, K1), (.slice l12a (S1).length l12c, S1)]) := A17.out.below G19.out
  clear A17 HSm
  go_upto_region 22 with fail
  have T20 : Hid (∀ W, Below y19.heap.size y19 W → Below y19.heap.size y19 W ∧ W.cell? ⟨X, 0, none⟩ = some (.slice (some ⟨gw, 0, none⟩) t.length cw) ∧ W.cell? ⟨P, 2, none⟩ = some (.slice za zs.length zc)) := fun W hW => ⟨hW, (HS2.out W (Below.step B19.out hW)).x0, (HS2.out W (Below.step B19.out hW)).p2⟩
  have x0 := (T20.out y19 (Below.refl _ _)).2.1
  have p2 := (T20.out y19 (Below.refl _ _)).2.2
  go_cut [30, 31, 32] from 211 to 222 (fun u0 u1 u2 wx => ∃ la lc, u0 = .slice la (K2).length lc ∧ u1 = .int .i64 (b2) ∧ u2 = .int .i64 (a2) ∧ Own y19.heap.size wx (.slice la (K2).length lc) (K2) ∧ Below y19.heap.size y19 wx)
  case first =>
    go_region_held (fun W => Below y19.heap.size y19 W ∧ W.cell? ⟨X, 0, none⟩ = some (.slice (some ⟨gw, 0, none⟩) t.length cw) ∧ W.cell? ⟨P, 2, none⟩ = some (.slice za zs.length zc)) (first | exact T20.out _ (Below.refl _ _).drew | exact T20.out _ G20.out.2) (first | (go_at_call 6; refine ((HCtr.out y19 B19.out _ (Below.refl _ _).drew).1).mono ?_; rintro e y20 ⟨l20a, l20c, rfl, ho, hb9⟩; have G20 : Hid (Own y19.heap.size y20 (.slice l20a (K2).length l20c) (K2) ∧ Below y19.heap.size y19 y20) := ⟨ho, hb9⟩; clear ho hb9))
    go_wp2_with fail
    go_meet
    exact ⟨_, _, rfl, rfl, rfl, G20.out.1, G20.out.2⟩
  case rest =>
  clear x0 p2 T20
  generalize wc = y20 at *
  obtain ⟨l20a, l20c, rfl, rfl, rfl, ho, hb9⟩ := hcut
  have G20 : Hid (Own y19.heap.size y20 (.slice l20a (K2).length l20c) (K2) ∧ Below y19.heap.size y19 y20) := ⟨ho, hb9⟩
  clear ho hb9
  have B20 : Hid (Below y17.heap.size y17 y20) := Below.step B19.out G20.out.2
  have A20 : Hid (An y0.heap.size y20 [(.slice l1a (K1).length l1c, K1), (.slice l2a (S1).length l2c, S1), (.slice l7a (K3).length l7c, K3), (.slice l8a (S3).length l8c, S3), (.slice l9a (K1).length l9c, K1), (.slice l10a (S1).length l10c, S1), (.slice l11a (K1).length l11c, K1), (.slice l12a (S1).length l12c, S1), (.slice l20a (K2).length l20c, K2)]) := A19.out.add G20.out.2 G20.out.1 (HBy.out y19 B19.out)
  clear A19 G20
  go_upto_region 23 with fail
  have T21 : Hid (∀ W, Below y20.heap.size y20 W → Below y20.heap.size y20 W ∧ W.cell? ⟨X, 0, none⟩ = some (.slice (some ⟨gw, 0, none⟩) t.length cw) ∧ W.cell? ⟨P, 2, none⟩ = some (.slice za zs.length zc)) := fun W hW => ⟨hW, (HS2.out W (Below.step B20.out hW)).x0, (HS2.out W (Below.step B20.out hW)).p2⟩
  have x0 := (T21.out y20 (Below.refl _ _)).2.1
  have p2 := (T21.out y20 (Below.refl _ _)).2.2
  go_cut [23, 24, 25] from 223 to 234 (fun u0 u1 u2 wx => ∃ la lc, u0 = .slice la (K2).length lc ∧ u1 = .int .i64 (b2) ∧ u2 = .int .i64 (a2) ∧ Own y20.heap.size wx (.slice la (K2).length lc) (K2) ∧ Below y20.heap.size y20 wx)
  case first =>
    go_region_held (fun W => Below y20.heap.size y20 W ∧ W.cell? ⟨X, 0, none⟩ = some (.slice (some ⟨gw, 0, none⟩) t.length cw) ∧ W.cell? ⟨P, 2, none⟩ = some (.slice za zs.length zc)) (first | exact T21.out _ (Below.refl _ _).drew | exact T21.out _ G21.out.2) (first | (go_at_call 14; refine ((HCtU.out y20 B20.out _ (Below.refl _ _).drew).1).mono ?_; rintro e y21 ⟨l21a, l21c, rfl, ho, hb9⟩; have G21 : Hid (Own y20.heap.size y21 (.slice l21a (K2).length l21c) (K2) ∧ Below y20.heap.size y20 y21) := ⟨ho, hb9⟩; clear ho hb9))
    go_wp2_with fail
    go_meet
    exact ⟨_, _, rfl, rfl, rfl, G21.out.1, G21.out.2⟩
  case rest =>
  clear x0 p2 T21
  generalize wc = y21 at *
  obtain ⟨l21a, l21c, rfl, rfl, rfl, ho, hb9⟩ := hcut
  have G21 : Hid (Own y20.heap.size y21 (.slice l21a (K2).length l21c) (K2) ∧ Below y20.heap.size y20 y21) := ⟨ho, hb9⟩
  clear ho hb9
  have B21 : Hid (Below y17.heap.size y17 y21) := Below.step B20.out G21.out.2
  have A21 : Hid (An y0.heap.size y21 [(.slice l1a (K1).length l1c, K1), (.slice l2a (S1).length l2c, S1), (.slice l7a (K3).length l7c, K3), (.slice l8a (S3).length l8c, S3), (.slice l9a (K1).length l9c, K1), (.slice l10a (S1).length l10c, S1), (.slice l11a (K1).length l11c, K1), (.slice l12a (S1).length l12c, S1), (.slice l20a (K2).length l20c, K2), (.slice l21a (K2).length l21c, K2)]) := A20.out.add G21.out.2 G21.out.1 (HBy.out y20 B20.out)
  clear A20 G21
  have HSm : Hid (∀ W, Below y21.heap.size y21 W → (Calls Try.prog 18 #[.slice l20a (K2).length l20c, .slice l21a (K2).length l21c] W fun e w' => e = .returned (.bool true) ∧ Below y21.heap.size y21 w')) := fun W hW => (sameInts_any _ _ _ _ W (((A21.out.below hW).at (i := 8) rfl).rd (by omega)) (((A21.out.below hW).at (i := 9) rfl).rd (by omega))).mono (fun e w' h => ⟨by rw [h.1]; simp, Below.step hW h.2⟩)
  go_upto_region 26 with (first
    | (go_at_call 18; refine ((HSm.out _ (Below.refl _ _))).mono ?_; rintro e y22 ⟨rfl, hb9⟩; have G22 : Hid (Below y21.heap.size y21 y22) := hb9; clear hb9))
  have B22 : Hid (Below y17.heap.size y17 y22) := Below.step B21.out G22.out
  have A22 : Hid (An y0.heap.size y22 [(.slice l1a (K1).length l1c, K1), (.slice l2a (S1).length l2c, S1), (.slice l7a (K3).length l7c, K3), (.slice l8a (S3).length l8c, S3), (.slice l9a (K1).length l9c, K1), (.slice l10a (S1).length l10c, S1), (.slice l11a (K1).length l11c, K1), (.slice l12a (S1).length l12c, S1), (.slice l20a (K2).length l20c, K2), (.slice l21a (K2).length l21c, K2)]) := A21.out.below G22.out
  clear A21 HSm
  go_upto_region 26 with fail
  have T23 : Hid (∀ W, Below y22.heap.size y22 W → Below y22.heap.size y22 W ∧ W.cell? ⟨X, 0, none⟩ = some (.slice (some ⟨gw, 0, none⟩) t.length cw) ∧ W.cell? ⟨P, 2, none⟩ = some (.slice za zs.length zc)) := fun W hW => ⟨hW, (HS2.out W (Below.step B22.out hW)).x0, (HS2.out W (Below.step B22.out hW)).p2⟩
  have x0 := (T23.out y22 (Below.refl _ _)).2.1
  have p2 := (T23.out y22 (Below.refl _ _)).2.2
  go_cut [33, 34] from 249 to 259 (fun u0 u1 wx => ∃ la lc, u0 = .slice la (S2).length lc ∧ u1 = .int .i64 (a2) ∧ Own y22.heap.size wx (.slice la (S2).length lc) (S2) ∧ Below y22.heap.size y22 wx)
  case first =>
    go_region_held (fun W => Below y22.heap.size y22 W ∧ W.cell? ⟨X, 0, none⟩ = some (.slice (some ⟨gw, 0, none⟩) t.length cw) ∧ W.cell? ⟨P, 2, none⟩ = some (.slice za zs.length zc)) (first | exact T23.out _ (Below.refl _ _).drew | exact T23.out _ G23.out.2) (first | (go_at_call 7; refine ((HCtr.out y22 B22.out _ (Below.refl _ _).drew).2.1).mono ?_; rintro e y23 ⟨l23a, l23c, rfl, ho, hb9⟩; have G23 : Hid (Own y22.heap.size y23 (.slice l23a (S2).length l23c) (S2) ∧ Below y22.heap.size y22 y23) := ⟨ho, hb9⟩; clear ho hb9))
    go_wp2_with fail
    go_meet
    exact ⟨_, _, rfl, rfl, G23.out.1, G23.out.2⟩
  case rest =>
  clear x0 p2 T23
  generalize wc = y23 at *
  obtain ⟨l23a, l23c, rfl, rfl, ho, hb9⟩ := hcut
  have G23 : Hid (Own y22.heap.size y23 (.slice l23a (S2).length l23c) (S2) ∧ Below y22.heap.size y22 y23) := ⟨ho, hb9⟩
  clear ho hb9
  have B23 : Hid (Below y17.heap.size y17 y23) := Below.step B22.out G23.out.2
  have A23 : Hid (An y0.heap.size y23 [(.slice l1a (K1).length l1c, K1), (.slice l2a (S1).length l2c, S1), (.slice l7a (K3).length l7c, K3), (.slice l8a (S3).length l8c, S3), (.slice l9a (K1).length l9c, K1), (.slice l10a (S1).length l10c, S1), (.slice l11a (K1).length l11c, K1), (.slice l12a (S1).length l12c, S1), (.slice l20a (K2).length l20c, K2), (.slice l21a (K2).length l21c, K2), (.slice l23a (S2).length l23c, S2)]) := A22.out.add G23.out.2 G23.out.1 (HBy.out y22 B22.out)
  clear A22 G23
  go_upto_region 27 with fail
  have T24 : Hid (∀ W, Below y23.heap.size y23 W → Below y23.heap.size y23 W ∧ W.cell? ⟨X, 0, none⟩ = some (.slice (some ⟨gw, 0, none⟩) t.length cw) ∧ W.cell? ⟨P, 2, none⟩ = some (.slice za zs.length zc)) := fun W hW => ⟨hW, (HS2.out W (Below.step B23.out hW)).x0, (HS2.out W (Below.step B23.out hW)).p2⟩
  have x0 := (T24.out y23 (Below.refl _ _)).2.1
  have p2 := (T24.out y23 (Below.refl _ _)).2.2
  go_cut [26, 27] from 260 to 270 (fun u0 u1 wx => ∃ la lc, u0 = .slice la (S2).length lc ∧ u1 = .int .i64 (a2) ∧ Own y23.heap.size wx (.slice la (S2).length lc) (S2) ∧ Below y23.heap.size y23 wx)
  case first =>
    go_region_held (fun W => Below y23.heap.size y23 W ∧ W.cell? ⟨X, 0, none⟩ = some (.slice (some ⟨gw, 0, none⟩) t.length cw) ∧ W.cell? ⟨P, 2, none⟩ = some (.slice za zs.length zc)) (first | exact T24.out _ (Below.refl _ _).drew | exact T24.out _ G24.out.2) (first | (go_at_call 15; refine ((HCtU.out y23 B23.out _ (Below.refl _ _).drew).2.1).mono ?_; rintro e y24 ⟨l24a, l24c, rfl, ho, hb9⟩; have G24 : Hid (Own y23.heap.size y24 (.slice l24a (S2).length l24c) (S2) ∧ Below y23.heap.size y23 y24) := ⟨ho, hb9⟩; clear ho hb9))
    go_wp2_with fail
    go_meet
    exact ⟨_, _, rfl, rfl, G24.out.1, G24.out.2⟩
  case rest =>
  clear x0 p2 T24
  generalize wc = y24 at *
  obtain ⟨l24a, l24c, rfl, rfl, ho, hb9⟩ := hcut
  have G24 : Hid (Own y23.heap.size y24 (.slice l24a (S2).length l24c) (S2) ∧ Below y23.heap.size y23 y24) := ⟨ho, hb9⟩
  clear ho hb9
  have B24 : Hid (Below y17.heap.size y17 y24) := Below.step B23.out G24.out.2
  have A24 : Hid (An y0.heap.size y24 [(.slice l1a (K1).length l1c, K1), (.slice l2a (S1).length l2c, S1), (.slice l7a (K3).length l7c, K3), (.slice l8a (S3).length l8c, S3), (.slice l9a (K1).length l9c, K1), (.slice l10a (S1).length l10c, S1), (.slice l11a (K1).length l11c, K1), (.slice l12a (S1).length l12c, S1), (.slice l20a (K2).length l20c, K2), (.slice l21a (K2).length l21c, K2), (.slice l23a (S2).length l23c, S2), (.slice l24a (S2).length l24c, S2)]) := A23.out.add G24.out.2 G24.out.1 (HBy.out y23 B23.out)
  clear A23 G24
  go_upto_region 28 with fail
  have T25 : Hid (∀ W, Below y24.heap.size y24 W → Below y24.heap.size y24 W ∧ W.cell? ⟨X, 0, none⟩ = some (.slice (some ⟨gw, 0, none⟩) t.length cw) ∧ W.cell? ⟨P, 2, none⟩ = some (.slice za zs.length zc)) := fun W hW => ⟨hW, (HS2.out W (Below.step B24.out hW)).x0, (HS2.out W (Below.step B24.out hW)).p2⟩
  have x0 := (T25.out y24 (Below.refl _ _)).2.1
  have p2 := (T25.out y24 (Below.refl _ _)).2.2
  go_cut [35, 32] from 271 to 281 (fun u0 u1 wx => u0 = .int .i64 (n2) ∧ u1 = .int .i64 (m2) ∧ Below y24.heap.size y24 wx)
  case first =>
    go_region_held (fun W => Below y24.heap.size y24 W ∧ W.cell? ⟨X, 0, none⟩ = some (.slice (some ⟨gw, 0, none⟩) t.length cw) ∧ W.cell? ⟨P, 2, none⟩ = some (.slice za zs.length zc)) (first | exact T25.out _ (Below.refl _ _).drew | exact T25.out _ G25.out) (first | (go_at_call 8; refine ((HCtr.out y24 B24.out _ (Below.refl _ _).drew).2.2.1).mono ?_; rintro e y25 ⟨rfl, hb9⟩; have G25 : Hid (Below y24.heap.size y24 y25) := hb9; clear hb9))
    go_wp2_with fail
    go_meet
    exact ⟨rfl, rfl, G25.out⟩
  case rest =>
  clear x0 p2 T25
  generalize wc = y25 at *
  obtain ⟨rfl, rfl, hb9⟩ := hcut
  have G25 : Hid (Below y24.heap.size y24 y25) := hb9
  clear hb9
  have B25 : Hid (Below y17.heap.size y17 y25) := Below.step B24.out G25.out
  have A25 : Hid (An y0.heap.size y25 [(.slice l1a (K1).length l1c, K1), (.slice l2a (S1).length l2c, S1), (.slice l7a (K3).length l7c, K3), (.slice l8a (S3).length l8c, S3), (.slice l9a (K1).length l9c, K1), (.slice l10a (S1).length l10c, S1), (.slice l11a (K1).length l11c, K1), (.slice l12a (S1).length l12c, S1), (.slice l20a (K2).length l20c, K2), (.slice l21a (K2).length l21c, K2), (.slice l23a (S2).length l23c, S2), (.slice l24a (S2).length l24c, S2)]) := A24.out.below G25.out
  clear A24 G25
  go_upto_region 29 with fail
  have T26 : Hid (∀ W, Below y25.heap.size y25 W → Below y25.heap.size y25 W ∧ W.cell? ⟨X, 0, none⟩ = some (.slice (some ⟨gw, 0, none⟩) t.length cw) ∧ W.cell? ⟨P, 2, none⟩ = some (.slice za zs.length zc)) := fun W hW => ⟨hW, (HS2.out W (Below.step B25.out hW)).x0, (HS2.out W (Below.step B25.out hW)).p2⟩
  have x0 := (T26.out y25 (Below.refl _ _)).2.1
  have p2 := (T26.out y25 (Below.refl _ _)).2.2
  go_cut [28, 25] from 282 to 292 (fun u0 u1 wx => u0 = .int .i64 (n2) ∧ u1 = .int .i64 (m2) ∧ Below y25.heap.size y25 wx)
  case first =>
    go_region_held (fun W => Below y25.heap.size y25 W ∧ W.cell? ⟨X, 0, none⟩ = some (.slice (some ⟨gw, 0, none⟩) t.length cw) ∧ W.cell? ⟨P, 2, none⟩ = some (.slice za zs.length zc)) (first | exact T26.out _ (Below.refl _ _).drew | exact T26.out _ G26.out) (first | (go_at_call 16; refine ((HCtU.out y25 B25.out _ (Below.refl _ _).drew).2.2.1).mono ?_; rintro e y26 ⟨rfl, hb9⟩; have G26 : Hid (Below y25.heap.size y25 y26) := hb9; clear hb9))
    go_wp2_with fail
    go_meet
    exact ⟨rfl, rfl, G26.out⟩
  case rest =>
  clear x0 p2 T26
  generalize wc = y26 at *
  obtain ⟨rfl, rfl, hb9⟩ := hcut
  have G26 : Hid (Below y25.heap.size y25 y26) := hb9
  clear hb9
  have B26 : Hid (Below y17.heap.size y17 y26) := Below.step B25.out G26.out
  have A26 : Hid (An y0.heap.size y26 [(.slice l1a (K1).length l1c, K1), (.slice l2a (S1).length l2c, S1), (.slice l7a (K3).length l7c, K3), (.slice l8a (S3).length l8c, S3), (.slice l9a (K1).length l9c, K1), (.slice l10a (S1).length l10c, S1), (.slice l11a (K1).length l11c, K1), (.slice l12a (S1).length l12c, S1), (.slice l20a (K2).length l20c, K2), (.slice l21a (K2).length l21c, K2), (.slice l23a (S2).length l23c, S2), (.slice l24a (S2).length l24c, S2)]) := A25.out.below G26.out
  clear A25 G26
  have HSm : Hid (∀ W, Below y26.heap.size y26 W → Calls Try.prog 18 #[.slice l23a (S2).length l23c, .slice l24a (S2).length l24c] W fun e w' => e = .returned (.bool true) ∧ Below y26.heap.size y26 w') := fun W hW => (sameInts_any _ _ _ _ W (((A26.out.below hW).at (i := 10) rfl).rd (by omega)) (((A26.out.below hW).at (i := 11) rfl).rd (by omega))).mono (fun e w' h => ⟨by rw [h.1]; simp, Below.step hW h.2⟩)
  have T99 : Hid (∀ W, Below y26.heap.size y26 W → Below y26.heap.size y26 W ∧ W.cell? ⟨X, 0, none⟩ = some (.slice (some ⟨gw, 0, none⟩) t.length cw)) := fun W hW => ⟨hW, (HS2.out W (Below.step B26.out hW)).x0⟩
  have HF1 : Hid (∀ W, Below y26.heap.size y26 W → Calls Try.prog 9 #[.slice (some ⟨gw, 0, none⟩) t.length cw] W fun e w' => e = .returned (.bool (frmE (ovT t.length))) ∧ Below y26.heap.size y26 w') := fun W hW => ((HCtr.out y26 B26.out W hW).2.2.2)
  have HF2 : Hid (∀ W, Below y26.heap.size y26 W → Calls Try.prog 17 #[.slice (some ⟨gw, 0, none⟩) t.length cw] W fun e w' => e = .returned (.bool (frmE (ovT t.length))) ∧ Below y26.heap.size y26 w') := fun W hW => ((HCtU.out y26 B26.out W hW).2.2.2)
  generalize frmE (ovT t.length) = fq at *
  go_upto_region 30 with fail
  have x0 := (T99.out y26 (Below.refl _ _)).2
  go_cut [320] from 293 to 319 (fun u0 wx => u0 = .bool false ∧ Below y26.heap.size y26 wx)
  case first =>
    go_region_held (fun W => Below y26.heap.size y26 W ∧ W.cell? ⟨X, 0, none⟩ = some (.slice (some ⟨gw, 0, none⟩) t.length cw)) (first | exact T99.out _ (Below.refl _ _).drew | exact T99.out _ E3.out | exact T99.out _ E2.out | exact T99.out _ E1.out) (first
      | (have qq := E2.out; go_at_call 17; refine (HF2.out _ E2.out).mono ?_; rintro e e3 ⟨rfl, hb9⟩; have E3 : Hid (Below y26.heap.size y26 e3) := hb9; clear hb9 qq)
      | (have qq := E1.out; go_at_call 9; refine (HF1.out _ E1.out).mono ?_; rintro e e2 ⟨rfl, hb9⟩; have E2 : Hid (Below y26.heap.size y26 e2) := hb9; clear hb9 qq)
      | (go_at_call 18; refine (HSm.out _ (Below.refl _ _).drew).mono ?_; rintro e e1 ⟨rfl, hb9⟩; have E1 : Hid (Below y26.heap.size y26 e1) := hb9; clear hb9))
    go_wp2_with fail
    go_meet
    exact ⟨by first | rfl | simp, E3.out⟩
  case rest =>
  clear x0
  generalize wc = e3 at *
  obtain ⟨rfl, hb9⟩ := hcut
  have E3 : Hid (Below y26.heap.size y26 e3) := hb9
  clear hb9
  have HAe : Hid (An y0.heap.size e3 [(.slice l1a (K1).length l1c, K1), (.slice l2a (S1).length l2c, S1), (.slice l7a (K3).length l7c, K3), (.slice l8a (S3).length l8c, S3), (.slice l9a (K1).length l9c, K1), (.slice l10a (S1).length l10c, S1), (.slice l11a (K1).length l11c, K1), (.slice l12a (S1).length l12c, S1), (.slice l20a (K2).length l20c, K2), (.slice l21a (K2).length l21c, K2), (.slice l23a (S2).length l23c, S2), (.slice l24a (S2).length l24c, S2)]) := A26.out.below E3.out
  have HBe : Hid (y0.heap.size ≤ e3.heap.size ∧ Below w.heap.size w e3 ∧ w.heap.size ≤ y0.heap.size) := ⟨HBy.out _ (Below.step B26.out E3.out), (HS2.out _ (Below.step B26.out E3.out)).b, (HS.out y0 (Below.refl _ _)).b.size⟩
  have HAp : Hid (Calls Try.prog 21 #[.slice (some ⟨e3.heap.size, 0, none⟩) 7 7] (e3.alloc (.cells #[.slice l1a (K1).length l1c, .slice l9a (K1).length l9c, .slice l7a (K3).length l7c, .slice l20a (K2).length l20c, .slice l2a (S1).length l2c, .slice l10a (S1).length l10c, .slice l8a (S3).length l8c] 23)) fun e w' => e = .returned (.bool true) ∧ Below y0.heap.size e3 w') := apart7 HAe.out HBe.out.1 (fun x hx => by
    simp only [List.mem_cons, List.not_mem_nil, or_false] at hx
    rcases hx with rfl | rfl | rfl | rfl | rfl | rfl | rfl | rfl | rfl | rfl | rfl | rfl <;> simp only <;> omega) (fun j => [0, 4, 2, 8, 1, 5, 3].getD j 0) (fun j hj => (by decide : ∀ j, j < 7 → [0, 4, 2, 8, 1, 5, 3].getD j 0 < 12) j hj) (fun i j hi hj => (by decide : ∀ i, i < 7 → ∀ j, j < 7 → i ≠ j → [0, 4, 2, 8, 1, 5, 3].getD i 0 ≠ [0, 4, 2, 8, 1, 5, 3].getD j 0) i hi j hj) [.slice l1a (K1).length l1c, .slice l9a (K1).length l9c, .slice l7a (K3).length l7c, .slice l20a (K2).length l20c, .slice l2a (S1).length l2c, .slice l10a (S1).length l10c, .slice l8a (S3).length l8c] rfl
  go_wp2_with (go_at_call 21; refine HAp.out.mono ?_; rintro e e4 ⟨rfl, hb9⟩; have E4 : Hid (Below y0.heap.size e3 e4) := hb9; clear hb9)
  go_ret
  exact ⟨rfl, by rw [← hP]; exact HBe.out.2.1.trans (E4.out.mono HBe.out.2.2)⟩
end Go.Proofs.Ytgngdohhlhlcpaa.learnKeeps
