/-
  RupKeeps, walked (written by walks/genrk.py).
  KEEP: set on app at below new trans refl start ap kept rd rds mono lt add none own nil put len pos setF setV putL putR other neV same_any row out bx call box turned vals walk tn done step
-/
import Derived.Test.YtgaojmcmpdjfmaaDoorJAparQ
import Derived.Test.YtgaojmcmpdjfmaaDoorKRpAn
import Derived.Test.YtgaojmcmpdjfmaaDoorJRpF
import Derived.Test.YtgaojmcmpdjfmaaDoorJTidy
import Derived.Test.YtgaojmcmpdjfmaaDoorJForms
import Derived.Deep.RegionHeld
import Derived.Deep.Cut
set_option linter.unusedSimpArgs false
set_option linter.unusedVariables false
namespace Go.Proofs.YtgaojmcmpdjfmaaDoor.rupKeeps
open Go Go.RowKit Go.Shelf

theorem cell_ofB {W : World} {D : Nat} {cs : Array Value} {ty : TypeId} (h : W.heap[D]? = some (.cells cs ty (0, 0))) {j : Nat} {v : Value} (hj : cs[j]? = some v) : W.cell? ⟨D, j, none⟩ = some v := by simp [World.cell?, h, hj]
/-- a new box with what the calls say -/
def TB (W : World) (vs : Array Value) (p : Value) (wx : World) : Prop := ∃ D, p = .pointer (some ⟨D, 0, none⟩) ∧ wx.heap[D]? = some (.cells vs 33 (0, 0)) ∧ W.heap.size ≤ D ∧ Below W.heap.size W wx
theorem told_new {W X : World} (h : Below W.heap.size W X) (vs : Array Value) : ∀ Y, Y = X.alloc (.cells vs 33) → TB W vs (.pointer (some ⟨X.heap.size, 0, none⟩)) Y ∧ Below W.heap.size W Y := fun Y e => by
  subst e
  exact ⟨⟨X.heap.size, rfl, World.alloc_heap_new X _, h.size, Below.step h (below_box _ _)⟩, Below.step h (below_box _ _)⟩
theorem told_old {W X : World} {vs : Array Value} (h : Below (W.alloc (.cells vs 33)).drew.heap.size (W.alloc (.cells vs 33)).drew X) : X.heap[W.heap.size]? = some (.cells vs 33 (0, 0)) := by
  have e : (W.alloc (.cells vs 33)).drew.heap[W.heap.size]? = some (.cells vs 33 (0, 0)) := World.alloc_heap_new W _
  exact (h.block _ (Array.getElem?_eq_some_iff.1 e).1).trans e
theorem told_cells {W : World} {D : Nat} {a b c d e : Value} (h : W.heap[D]? = some (.cells #[a, b, c, d, e] 33 (0, 0))) : W.cell? ⟨D, 0, none⟩ = some a ∧ W.cell? ⟨D, 1, none⟩ = some b ∧ W.cell? ⟨D, 2, none⟩ = some c ∧ W.cell? ⟨D, 3, none⟩ = some d ∧ W.cell? ⟨D, 4, none⟩ = some e ∧ ∀ j, W.frozen? ⟨D, j, none⟩ = false :=
  ⟨cell_ofB h rfl, cell_ofB h rfl, cell_ofB h rfl, cell_ofB h rfl, cell_ofB h rfl, fun j => by simp [World.frozen?, h]⟩
theorem told_set {W X : World} {a b c d e v0 v1 v2 v3 v4 : Value} (h : Below W.heap.size W X) (hD : X.heap[W.heap.size]? = some (.cells #[a, b, c, d, e] 33 (0, 0))) : ∀ Y, Y = (((((X.setCell ⟨W.heap.size, 0, none⟩ v0).setCell ⟨W.heap.size, 1, none⟩ v1).setCell ⟨W.heap.size, 2, none⟩ v2).setCell ⟨W.heap.size, 3, none⟩ v3).setCell ⟨W.heap.size, 4, none⟩ v4) → TB W #[v0, v1, v2, v3, v4] (.pointer (some ⟨W.heap.size, 0, none⟩)) Y ∧ Below W.heap.size W Y := fun Y e => by
  subst e
  have hb := heap_set5 (heap_set5 (heap_set5 (heap_set5 (heap_set5 hD 0 v0) 1 v1) 2 v2) 3 v3) 4 v4
  have h2 := below_set (below_set (below_set (below_set (below_set h (Nat.le_refl _) 0 v0) (Nat.le_refl _) 1 v1) (Nat.le_refl _) 2 v2) (Nat.le_refl _) 3 v3) (Nat.le_refl _) 4 v4
  exact ⟨⟨_, rfl, hb, Nat.le_refl _, h2⟩, h2⟩
/-- a new box with a formula -/
def FBx (W : World) (n : Int) (m : Nat) (ds : List (List Int)) (p : Value) (wx : World) : Prop := ∃ D az cz, p = .pointer (some ⟨D, 0, none⟩) ∧ wx.heap[D]? = some (.cells #[.int .i64 n, .slice az m cz] 24 (0, 0)) ∧ OwnF W.heap.size wx (.slice az m cz) ds ∧ W.heap.size ≤ D ∧ Below W.heap.size W wx
theorem fb_new {W X : World} {n : Int} {m : Nat} {ds : List (List Int)} {az : Option Addr} {cz : Nat} (h : Below W.heap.size W X) (hr : OwnF W.heap.size X (.slice az m cz) ds) : ∀ Y, Y = X.alloc (.cells #[.int .i64 n, .slice az m cz] 24) → FBx W n m ds (.pointer (some ⟨X.heap.size, 0, none⟩)) Y ∧ Below W.heap.size W Y := fun Y e => by
  subst e
  exact ⟨⟨X.heap.size, az, cz, rfl, World.alloc_heap_new X _, hr.below (below_box _ _), h.size, Below.step h (below_box _ _)⟩, Below.step h (below_box _ _)⟩
theorem fb_old {W X : World} {vs : Array Value} (h : Below (W.alloc (.cells vs 24)).drew.heap.size (W.alloc (.cells vs 24)).drew X) : X.heap[W.heap.size]? = some (.cells vs 24 (0, 0)) := by
  have e : (W.alloc (.cells vs 24)).drew.heap[W.heap.size]? = some (.cells vs 24 (0, 0)) := World.alloc_heap_new W _
  exact (h.block _ (Array.getElem?_eq_some_iff.1 e).1).trans e
theorem fb_set {W X : World} {n : Int} {m : Nat} {ds : List (List Int)} {az : Option Addr} {cz : Nat} {a b : Value} (h : Below W.heap.size W X) (hD : X.heap[W.heap.size]? = some (.cells #[a, b] 24 (0, 0))) (hr : OwnF W.heap.size X (.slice az m cz) ds) : ∀ Y, Y = ((X.setCell ⟨W.heap.size, 0, none⟩ (.int .i64 n)).setCell ⟨W.heap.size, 1, none⟩ (.slice az m cz)) → FBx W n m ds (.pointer (some ⟨W.heap.size, 0, none⟩)) Y ∧ Below W.heap.size W Y := fun Y e => by
  subst e
  have hb := heap_set5 (heap_set5 hD 0 (.int .i64 n)) 1 (.slice az m cz)
  have h2 := below_set (below_set h (Nat.le_refl _) 0 (.int .i64 n)) (Nat.le_refl _) 1 (.slice az m cz)
  have hB : Bx2 X W.heap.size 24 a b := hD
  exact ⟨⟨_, az, cz, rfl, hb, (hr.set hB (by decide) (by decide) _ _).set (hB.set0 _) (by decide) (by decide) _ _, Nat.le_refl _, h2⟩, h2⟩
theorem few_turned {css : List (List Int)} (h : Few css) : Few (css.map (·.map ngv)) := by
  refine ⟨by simpa using h.num, fun c hc => ?_, ?_⟩
  · obtain ⟨z, hz, rfl⟩ := List.mem_map.1 hc
    simpa using h.len z hz
  · have : lsum (css.map (·.map ngv)) = lsum css := by unfold lsum; simp [Function.comp_def]
    rw [this]; exact h.sum

set_option maxRecDepth 100000 in
set_option maxHeartbeats 51200000 in
theorem walk (n : Int) (s : Value) (css : List (List Int)) (vc : Value) (c : List Int) (l : Int) (w : World) (_ : (Lit.int .i64 n).wf = true) (hr : Rds w s css) (hc : Rd w vc c) (hi : ∀ x ∈ c, i64 x) (_ : (Lit.int .i64 l).wf = true) (hb : css.length + (css.map List.length).sum ≤ 1048576) (hb2 : c.length ≤ 1048576) (hD : Deb w) :
    Calls Tryd.prog 3 #[.agg #[.int .i64 n, s], vc, .int .i64 l] w fun e w' => e = .returned (.bool true) ∧ Below w.heap.size w w' := by
  have H8 : Hid ((∀ z ∈ css, z.length * 8 ≤ 140737488351232) ∧ css.length ≤ 1048576 ∧ c.length ≤ 1048576 ∧ (∀ x ∈ c, i64 x)) := ⟨rds_each hr, by omega, hb2, hi⟩
  have HF1 : Hid (Few css) := Few.of (by omega) (by unfold lsum; omega)
  obtain ⟨ds, hds⟩ : ∃ ds, css.map (·.map ngv) = ds := ⟨_, rfl⟩
  have HF2 : Hid (Few ds) := (by show Few ds; rw [← hds]; exact few_turned HF1.out)
  have hdl : ds.length = css.length := (by rw [← hds]; simp)
  have HD8 : Hid (∀ z ∈ ds, z.length * 8 ≤ 140737488351232) := (by
    show ∀ z ∈ ds, z.length * 8 ≤ 140737488351232
    rw [← hds]
    intro z hz
    obtain ⟨y, hy, rfl⟩ := List.mem_map.1 hz
    have h5 := H8.out.1 y hy
    rw [List.length_map]; exact h5)
  have HDs : Hid (css.map (·.map ngv) = ds) := hds
  clear hds
  have hcl : css.length ≤ 1048576 := by omega
  have HX : Hid (∀ W, Below w.heap.size w W → Rds W s css ∧ Rd W vc c ∧ Deb W) := fun W h => ⟨hr.below h, hc.below h, hD.below h⟩
  obtain ⟨ac, cc, rfl, hcc, -, -⟩ := hc.form
  obtain ⟨p0, hp0⟩ : ∃ x, (shp n css c && folB css c) = x := ⟨_, rfl⟩
  obtain ⟨p1, hp1⟩ : ∃ x, (shp n css c && safB css c) = x := ⟨_, rfl⟩
  obtain ⟨p2, hp2⟩ : ∃ x, (shB n css c && blkB css c) = x := ⟨_, rfl⟩
  obtain ⟨p3, hp3⟩ : ∃ x, kn8 n css c = x := ⟨_, rfl⟩
  obtain ⟨p4, hp4⟩ : ∃ x, shE (shp n css c) = x := ⟨_, rfl⟩
  obtain ⟨q0, hq0⟩ : ∃ x, (shp n ds c && folB ds c) = x := ⟨_, rfl⟩
  obtain ⟨q1, hq1⟩ : ∃ x, (shp n ds c && safB ds c) = x := ⟨_, rfl⟩
  obtain ⟨q2, hq2⟩ : ∃ x, (shB n ds c && blkB ds c) = x := ⟨_, rfl⟩
  obtain ⟨q3, hq3⟩ : ∃ x, kn8 n ds c = x := ⟨_, rfl⟩
  obtain ⟨q4, hq4⟩ : ∃ x, shE (shp n ds c) = x := ⟨_, rfl⟩
  have HA1 : Hid (∀ W s' v', Below w.heap.size w W → Rds W s' css → Rd W v' c → Calls Tryd.prog 7 #[.agg #[.int .i64 n, s'], v'] W fun e w' => e = .returned (.agg #[.bool p0, .bool p1, .bool p2, .int .i64 p3, .int .i64 p4]) ∧ Below W.heap.size W w') := fun W s' v' h h1 h2 => by
    have h5 := answers_any n s' v' css c W h1 h2 H8.out.2.2.2 HF1.out (HX.out W h).2.2
    unfold anC at h5
    rw [hp0, hp1, hp2, hp3, hp4] at h5
    exact h5
  have HA2 : Hid (∀ W s' v', Below w.heap.size w W → Rds W s' ds → Rd W v' c → Calls Tryd.prog 7 #[.agg #[.int .i64 n, s'], v'] W fun e w' => e = .returned (.agg #[.bool q0, .bool q1, .bool q2, .int .i64 q3, .int .i64 q4]) ∧ Below W.heap.size W w') := fun W s' v' h h1 h2 => by
    have h5 := answers_any n s' v' ds c W h1 h2 H8.out.2.2.2 HF2.out (HX.out W h).2.2
    unfold anC at h5
    rw [hq0, hq1, hq2, hq3, hq4] at h5
    exact h5
  obtain ⟨P1, hP1⟩ : ∃ x, ptnA n css (ngw l) = x := ⟨_, rfl⟩
  obtain ⟨P2, hP2⟩ : ∃ x, ptnA n ds (ngw l) = x := ⟨_, rfl⟩
  have HPl : Hid (P1.length ≤ 1048576 ∧ P2.length ≤ 1048576) := ⟨by have h5 := ptnA_len n css (ngw l); rw [hP1] at h5; omega, by have h5 := ptnA_len n ds (ngw l); rw [hP2] at h5; omega⟩
  have HP1 : Hid (∀ W s', Rds W s' css → Calls Tryd.prog 8 #[.agg #[.int .i64 n, s'], .int .i64 l] W fun e w' => ∃ az cz, e = .returned (.slice az P1.length cz) ∧ Own W.heap.size w' (.slice az P1.length cz) P1 ∧ Below W.heap.size W w') := fun W s' h1 => (partners_any n s' css l W h1).mono fun e w' ⟨v, he, ho, hb⟩ => by
    rw [hP1] at ho
    obtain ⟨az, cz, hz⟩ := own_form ho
    subst hz
    exact ⟨az, cz, he, ho, hb⟩
  have HP2 : Hid (∀ W s', Rds W s' ds → Calls Tryd.prog 8 #[.agg #[.int .i64 n, s'], .int .i64 l] W fun e w' => ∃ az cz, e = .returned (.slice az P2.length cz) ∧ Own W.heap.size w' (.slice az P2.length cz) P2 ∧ Below W.heap.size W w') := fun W s' h1 => (partners_any n s' ds l W h1).mono fun e w' ⟨v, he, ho, hb⟩ => by
    rw [hP2] at ho
    obtain ⟨az, cz, hz⟩ := own_form ho
    subst hz
    exact ⟨az, cz, he, ho, hb⟩
  clear hp0 hp1 hp2 hp3 hp4 hq0 hq1 hq2 hq3 hq4 hP1 hP2 hr hc hi hb hb2 hD
  have HB0 : Hid (Below w.heap.size w (w.alloc (.cells #[.int .i64 n, s] 24)) ∧ (w.alloc (.cells #[.int .i64 n, s] 24)).heap[w.heap.size]? = some (.cells #[.int .i64 n, s] 24 (0, 0))) := ⟨below_box _ _, World.alloc_heap_new w _⟩
  go_enter Tryd.func3, Tryd.ntmps3
  go_wp2_with fail
  generalize w.alloc (.cells #[.int .i64 n, s] 24) = W0 at *
  refine Calls.mono (awake8_any W0 (HX.out _ HB0.out.1).2.2) ?_
  rintro e wa ⟨rfl, ba⟩
  have HBa : Hid (Below w.heap.size w wa ∧ wa.heap[w.heap.size]? = some (.cells #[.int .i64 n, s] 24 (0, 0)) ∧ w.heap.size < wa.heap.size) := ⟨Below.step HB0.out.1 ba, (ba.block _ (bx_lt HB0.out.2)).trans HB0.out.2, Nat.lt_of_lt_of_le (bx_lt HB0.out.2) ba.size⟩
  have d1 := cell_ofB HBa.out.2.1 (j := 1) rfl
  clear ba HB0
  go_wp2_with fail
  refine Calls.mono (lentRows_any s css wa (HX.out _ HBa.out.1).1 (by omega)) ?_
  rintro e w1 ⟨vi, vw, vr, L, M, rfl, hq⟩
  obtain ⟨gw, cw, evw, evi, hcw, hcm⟩ := hq.vals
  subst evw; subst evi
  obtain ⟨ar, cr, er⟩ := row_form hq.l.r.row
  subst er
  have HQ : Hid (Lq wa w1 (.slice (some ⟨gw, 0, none⟩) css.length cw) (.slice (some ⟨gw, 0, none⟩) (css.length + 64) cw) (.slice ar L.length cr) css L M) := hq
  have HCw : Hid (css.length + 64 ≤ cw ∧ cw ≤ maxLen) := ⟨hcw, hcm⟩
  have HB1 : Hid (Below w.heap.size w w1) := Below.step HBa.out.1 hq.b
  clear hq hcm d1
  have hcw1 : css.length ≤ cw := by omega
  clear hcw
  go_wp2_with fail
  refine Calls.mono (lent_any (.slice ac c.length cc) c w1 (HX.out _ HB1.out).2.1) ?_
  rintro e w2 ⟨vq, rfl, own2, bel2⟩
  obtain ⟨gq, cq, eq, hcq, -, -⟩ := row_some own2 (by rw [List.length_append, m64_len]; omega)
  rw [List.length_append, m64_len] at eq hcq
  subst eq
  have HB2 : Hid (Below w.heap.size w w2 ∧ w2.heap[w.heap.size]? = some (.cells #[.int .i64 n, s] 24 (0, 0))) := ⟨Below.step HB1.out bel2, ((Below.step HQ.out.b bel2).block _ (bx_lt HBa.out.2.1)).trans HBa.out.2.1⟩
  have HSz : Hid (w.heap.size < wa.heap.size ∧ wa.heap.size ≤ w1.heap.size ∧ w1.heap.size ≤ w2.heap.size) := ⟨HBa.out.2.2, HQ.out.b.size, bel2.size⟩
  have HLt : Hid ((∀ k, Lown (.slice (some ⟨gw, 0, none⟩) (css.length + 64) cw) (.slice ar L.length cr) L k → wa.heap.size ≤ k ∧ k < w1.heap.size) ∧ L.length = css.length ∧ M.length = 64 ∧ w1.heap.size ≤ gq ∧ gq < w2.heap.size) := ⟨lown_le HQ.out.l, HQ.out.k.len.1, HQ.out.k.len.2, (own2.lt gq rfl).1, (own2.lt gq rfl).2⟩
  have HLa : Hid (∀ W, Below w2.heap.size w2 W → Lk wa.heap.size W (.slice (some ⟨gw, 0, none⟩) (css.length + 64) cw) (.slice ar L.length cr) css L M ∧ Own w1.heap.size W (.slice (some ⟨gq, 0, none⟩) (c.length + 64) cq) (c ++ m64)) := fun W h => ⟨HQ.out.k.below (Below.step bel2 h), own2.below h⟩
  have HCq : Hid (c.length + 64 ≤ cq) := hcq
  have hcq1 : c.length ≤ cq := by omega
  clear own2 bel2 hcq HQ HB1
  have d0 := cell_ofB HB2.out.2 (j := 0) rfl
  have d0' : (w2.alloc (.cells #[(.slice (some ⟨gw, 0, none⟩) css.length cw), (.slice (some ⟨gw, 0, none⟩) (css.length + 64) cw), (.slice ar L.length cr)] 28)).cell? ⟨w.heap.size, 0, none⟩ = some (.int .i64 n) := (World.cell?_alloc_lt _ _ _ (World.block_lt_of_cell? w2 _ d0)).trans d0
  go_upto_region 5 with fail
  have HK0 : Hid (∃ D1 D2 w4, ((w2.alloc (.cells #[(.slice (some ⟨gw, 0, none⟩) css.length cw), (.slice (some ⟨gw, 0, none⟩) (css.length + 64) cw), (.slice ar L.length cr)] 28)).alloc (.cells #[.int .i64 n, (.slice (some ⟨gw, 0, none⟩) css.length cw)] 24)) = w4 ∧ D1 = w2.heap.size ∧ D2 = w2.heap.size + 1 ∧ Kr w w4.heap.size w4 [(w.heap.size, (.cells #[.int .i64 n, s] 24 (0, 0))), (D1, (.cells #[(.slice (some ⟨gw, 0, none⟩) css.length cw), (.slice (some ⟨gw, 0, none⟩) (css.length + 64) cw), (.slice ar L.length cr)] 28 (0, 0))), (D2, (.cells #[.int .i64 n, (.slice (some ⟨gw, 0, none⟩) css.length cw)] 24 (0, 0)))] [] ∧ Below w2.heap.size w2 w4 ∧ D2 < w4.heap.size) := by
    have b1 := below_box w2 (.cells #[(.slice (some ⟨gw, 0, none⟩) css.length cw), (.slice (some ⟨gw, 0, none⟩) (css.length + 64) cw), (.slice ar L.length cr)] 28)
    have b2 := Below.step b1 (below_box (w2.alloc (.cells #[(.slice (some ⟨gw, 0, none⟩) css.length cw), (.slice (some ⟨gw, 0, none⟩) (css.length + 64) cw), (.slice ar L.length cr)] 28)) (.cells #[.int .i64 n, (.slice (some ⟨gw, 0, none⟩) css.length cw)] 24))
    have e1 : (w2.alloc (.cells #[(.slice (some ⟨gw, 0, none⟩) css.length cw), (.slice (some ⟨gw, 0, none⟩) (css.length + 64) cw), (.slice ar L.length cr)] 28)).heap.size = w2.heap.size + 1 := World.size_alloc _ _
    have e2 : ((w2.alloc (.cells #[(.slice (some ⟨gw, 0, none⟩) css.length cw), (.slice (some ⟨gw, 0, none⟩) (css.length + 64) cw), (.slice ar L.length cr)] 28)).alloc (.cells #[.int .i64 n, (.slice (some ⟨gw, 0, none⟩) css.length cw)] 24)).heap.size = w2.heap.size + 2 := by rw [World.size_alloc, e1]
    have h3 : ((w2.alloc (.cells #[(.slice (some ⟨gw, 0, none⟩) css.length cw), (.slice (some ⟨gw, 0, none⟩) (css.length + 64) cw), (.slice ar L.length cr)] 28)).alloc (.cells #[.int .i64 n, (.slice (some ⟨gw, 0, none⟩) css.length cw)] 24)).heap[w2.heap.size]? = some (.cells #[(.slice (some ⟨gw, 0, none⟩) css.length cw), (.slice (some ⟨gw, 0, none⟩) (css.length + 64) cw), (.slice ar L.length cr)] 28 (0, 0)) := ((below_box (w2.alloc (.cells #[(.slice (some ⟨gw, 0, none⟩) css.length cw), (.slice (some ⟨gw, 0, none⟩) (css.length + 64) cw), (.slice ar L.length cr)] 28)) (.cells #[.int .i64 n, (.slice (some ⟨gw, 0, none⟩) css.length cw)] 24)).block _ (by rw [e1]; omega)).trans (World.alloc_heap_new w2 _)
    have h4 : ((w2.alloc (.cells #[(.slice (some ⟨gw, 0, none⟩) css.length cw), (.slice (some ⟨gw, 0, none⟩) (css.length + 64) cw), (.slice ar L.length cr)] 28)).alloc (.cells #[.int .i64 n, (.slice (some ⟨gw, 0, none⟩) css.length cw)] 24)).heap[w2.heap.size + 1]? = some (.cells #[.int .i64 n, (.slice (some ⟨gw, 0, none⟩) css.length cw)] 24 (0, 0)) := by have h5 := World.alloc_heap_new (w2.alloc (.cells #[(.slice (some ⟨gw, 0, none⟩) css.length cw), (.slice (some ⟨gw, 0, none⟩) (css.length + 64) cw), (.slice ar L.length cr)] 28)) (.cells #[.int .i64 n, (.slice (some ⟨gw, 0, none⟩) css.length cw)] 24 (0, 0)); rw [e1] at h5; exact h5
    refine ⟨_, _, _, rfl, rfl, rfl, ⟨Below.step HB2.out.1 b2, by rw [e2]; have := HB2.out.1.size; omega, Nat.le_refl _, fun b hb => ?_, fun x hx => (by cases hx), List.Pairwise.nil⟩, b2, by rw [e2]; omega⟩
    simp only [List.mem_cons, List.not_mem_nil, or_false] at hb
    rcases hb with e | e | e
    · subst e; exact (b2.block _ (bx_lt HB2.out.2)).trans HB2.out.2
    · subst e; exact h3
    · subst e; exact h4
  obtain ⟨D1, D2, w4, e4, eD1, eD2, hk0, hb4, hd2⟩ := HK0.out
  rw [e4, ← eD2, ← eD1]
  have HDd : Hid (w2.heap.size ≤ D1 ∧ w2.heap.size ≤ D2 ∧ D1 < w4.heap.size ∧ D2 < w4.heap.size ∧ Below w2.heap.size w2 w4) := ⟨by omega, by omega, by omega, hd2, hb4⟩
  have HK : Hid (Kr w w4.heap.size w4 [(w.heap.size, (.cells #[.int .i64 n, s] 24 (0, 0))), (D1, (.cells #[(.slice (some ⟨gw, 0, none⟩) css.length cw), (.slice (some ⟨gw, 0, none⟩) (css.length + 64) cw), (.slice ar L.length cr)] 28 (0, 0))), (D2, (.cells #[.int .i64 n, (.slice (some ⟨gw, 0, none⟩) css.length cw)] 24 (0, 0)))] []) := hk0
  have HR4 : Hid (∀ W, Below w4.heap.size w4 W → Rds W (.slice (some ⟨gw, 0, none⟩) css.length cw) css ∧ Rd W (.slice (some ⟨gq, 0, none⟩) c.length cq) c) := fun W h => by
    have h5 := HLa.out W (Below.step hb4 h)
    exact ⟨h5.1.tn.rds hcw1 HCw.out.2 (by simp) (by have := H8.out.2.1; omega) H8.out.1, own_hd h5.2 (by omega) (by have := H8.out.2.2.1; omega)⟩
  clear HK0 e4 eD1 eD2 hk0 hb4 hd2 d0 d0'
  have HSx : Hid (∀ W', Below w4.heap.size w4 W' → Below w4.heap.size w4 W' ∧ W'.cell? ⟨D2, 0, none⟩ = some (.int .i64 n) ∧ W'.cell? ⟨D2, 1, none⟩ = some (.slice (some ⟨gw, 0, none⟩) css.length cw)) := fun W' h => ⟨h, cell_ofB ((HK.out.below h).bx (D2, (.cells #[.int .i64 n, (.slice (some ⟨gw, 0, none⟩) css.length cw)] 24 (0, 0))) (by simp)) rfl, cell_ofB ((HK.out.below h).bx (D2, (.cells #[.int .i64 n, (.slice (some ⟨gw, 0, none⟩) css.length cw)] 24 (0, 0))) (by simp)) rfl⟩
  have HC : Hid (∀ W', Below w4.heap.size w4 W' → Calls Tryd.prog 7 #[.agg #[.int .i64 n, (.slice (some ⟨gw, 0, none⟩) css.length cw)], (.slice (some ⟨gq, 0, none⟩) c.length cq)] W' fun e w' => e = .returned (.agg #[.bool p0, .bool p1, .bool p2, .int .i64 p3, .int .i64 p4]) ∧ Below W'.heap.size W' w') := fun W' h => HA1.out W' _ _ (HK.out.below h).bel (HR4.out W' h).1 (HR4.out W' h).2
  have HW1 : Hid (Below w4.heap.size w4 w4.drew) := (Below.refl _ _).drew
  have HW2 : Hid (Below w4.heap.size w4 ((w4.alloc (.cells #[.bool false, .bool false, .bool false, .int .i64 0, .int .i64 0] 33)).drew)) := (below_box _ _).drew
  go_cut [10] from 32 to 37 (fun p wx => TB w4 #[.bool p0, .bool p1, .bool p2, .int .i64 p3, .int .i64 p4] p wx)
  case first =>
    go_region_held (fun W' => Below w4.heap.size w4 W' ∧ W'.cell? ⟨D2, 0, none⟩ = some (.int .i64 n) ∧ W'.cell? ⟨D2, 1, none⟩ = some (.slice (some ⟨gw, 0, none⟩) css.length cw)) (first | with_reducible exact HSx.out _ HW1.out | with_reducible exact HSx.out _ HW2.out | with_reducible exact HSx.out _ B5.out | with_reducible exact HSx.out _ (Below.step B5.out (below_box _ _)) | with_reducible exact HSx.out _ (T5.out _ rfl).2) (first
      | (go_at_call 7; (with_reducible refine Calls.mono (HC.out _ HW1.out) ?_); rintro e w5' ⟨rfl, bel5⟩; have B5 : Hid (Below w4.heap.size w4 w5') := Below.step HW1.out bel5; have T5 : Hid (∀ X, X = w5'.alloc (.cells #[.bool p0, .bool p1, .bool p2, .int .i64 p3, .int .i64 p4] 33) → TB w4 #[.bool p0, .bool p1, .bool p2, .int .i64 p3, .int .i64 p4] (.pointer (some ⟨w5'.heap.size, 0, none⟩)) X ∧ Below w4.heap.size w4 X) := told_new (Below.step HW1.out bel5) _; clear bel5)
      | (go_at_call 7; (with_reducible refine Calls.mono (HC.out _ HW2.out) ?_); rintro e w5' ⟨rfl, bel5⟩; have B5 : Hid (Below w4.heap.size w4 w5') := Below.step HW2.out bel5; have N5 := told_old bel5; obtain ⟨x0, x1, x2, x3, x4, xf⟩ := told_cells N5; have T5 : Hid (∀ X, X = (((((w5'.setCell ⟨w4.heap.size, 0, none⟩ (.bool p0)).setCell ⟨w4.heap.size, 1, none⟩ (.bool p1)).setCell ⟨w4.heap.size, 2, none⟩ (.bool p2)).setCell ⟨w4.heap.size, 3, none⟩ (.int .i64 p3)).setCell ⟨w4.heap.size, 4, none⟩ (.int .i64 p4)) → TB w4 #[.bool p0, .bool p1, .bool p2, .int .i64 p3, .int .i64 p4] (.pointer (some ⟨w4.heap.size, 0, none⟩)) X ∧ Below w4.heap.size w4 X) := told_set (Below.step HW2.out bel5) N5; clear bel5 N5))
    all_goals
      go_wp2_with fail
      go_meet
      exact (T5.out _ rfl).1
  case rest =>
  obtain ⟨E1, rfl, hb9, hd9, be9⟩ := hcut
  generalize wc = w5 at *
  have HK' : Hid (Kr w w4.heap.size w5 [(w.heap.size, (.cells #[.int .i64 n, s] 24 (0, 0))), (D1, (.cells #[(.slice (some ⟨gw, 0, none⟩) css.length cw), (.slice (some ⟨gw, 0, none⟩) (css.length + 64) cw), (.slice ar L.length cr)] 28 (0, 0))), (D2, (.cells #[.int .i64 n, (.slice (some ⟨gw, 0, none⟩) css.length cw)] 24 (0, 0))), (E1, (.cells #[.bool p0, .bool p1, .bool p2, .int .i64 p3, .int .i64 p4] 33 (0, 0)))] []) := (HK.out.below be9).add hb9
  have D5 : Hid (w4.heap.size ≤ E1) := hd9
  have L5 : Hid (Below w4.heap.size w4 w5) := be9
  clear HSx HC HW1 HW2 hb9 hd9 be9 HK
  go_upto_region 6 with fail
  have HK := HK'
  clear HK'
  have HSx : Hid (∀ W', Below w5.heap.size w5 W' → Below w5.heap.size w5 W' ∧ W'.cell? ⟨D2, 0, none⟩ = some (.int .i64 n) ∧ W'.cell? ⟨D2, 1, none⟩ = some (.slice (some ⟨gw, 0, none⟩) css.length cw)) := fun W' h => ⟨h, cell_ofB ((HK.out.below h).bx (D2, (.cells #[.int .i64 n, (.slice (some ⟨gw, 0, none⟩) css.length cw)] 24 (0, 0))) (by simp)) rfl, cell_ofB ((HK.out.below h).bx (D2, (.cells #[.int .i64 n, (.slice (some ⟨gw, 0, none⟩) css.length cw)] 24 (0, 0))) (by simp)) rfl⟩
  have HC : Hid (∀ W', Below w5.heap.size w5 W' → Calls Tryd.prog 7 #[.agg #[.int .i64 n, (.slice (some ⟨gw, 0, none⟩) css.length cw)], (.slice (some ⟨gq, 0, none⟩) c.length cq)] W' fun e w' => e = .returned (.agg #[.bool p0, .bool p1, .bool p2, .int .i64 p3, .int .i64 p4]) ∧ Below W'.heap.size W' w') := fun W' h => HA1.out W' _ _ (HK.out.below h).bel (HR4.out W' (Below.step L5.out h)).1 (HR4.out W' (Below.step L5.out h)).2
  have HW1 : Hid (Below w5.heap.size w5 w5.drew) := (Below.refl _ _).drew
  have HW2 : Hid (Below w5.heap.size w5 ((w5.alloc (.cells #[.bool false, .bool false, .bool false, .int .i64 0, .int .i64 0] 33)).drew)) := (below_box _ _).drew
  go_cut [11] from 38 to 43 (fun p wx => TB w5 #[.bool p0, .bool p1, .bool p2, .int .i64 p3, .int .i64 p4] p wx)
  case first =>
    go_region_held (fun W' => Below w5.heap.size w5 W' ∧ W'.cell? ⟨D2, 0, none⟩ = some (.int .i64 n) ∧ W'.cell? ⟨D2, 1, none⟩ = some (.slice (some ⟨gw, 0, none⟩) css.length cw)) (first | with_reducible exact HSx.out _ HW1.out | with_reducible exact HSx.out _ HW2.out | with_reducible exact HSx.out _ B5.out | with_reducible exact HSx.out _ (Below.step B5.out (below_box _ _)) | with_reducible exact HSx.out _ (T5.out _ rfl).2) (first
      | (go_at_call 7; (with_reducible refine Calls.mono (HC.out _ HW1.out) ?_); rintro e w5' ⟨rfl, bel5⟩; have B5 : Hid (Below w5.heap.size w5 w5') := Below.step HW1.out bel5; have T5 : Hid (∀ X, X = w5'.alloc (.cells #[.bool p0, .bool p1, .bool p2, .int .i64 p3, .int .i64 p4] 33) → TB w5 #[.bool p0, .bool p1, .bool p2, .int .i64 p3, .int .i64 p4] (.pointer (some ⟨w5'.heap.size, 0, none⟩)) X ∧ Below w5.heap.size w5 X) := told_new (Below.step HW1.out bel5) _; clear bel5)
      | (go_at_call 7; (with_reducible refine Calls.mono (HC.out _ HW2.out) ?_); rintro e w5' ⟨rfl, bel5⟩; have B5 : Hid (Below w5.heap.size w5 w5') := Below.step HW2.out bel5; have N5 := told_old bel5; obtain ⟨x0, x1, x2, x3, x4, xf⟩ := told_cells N5; have T5 : Hid (∀ X, X = (((((w5'.setCell ⟨w5.heap.size, 0, none⟩ (.bool p0)).setCell ⟨w5.heap.size, 1, none⟩ (.bool p1)).setCell ⟨w5.heap.size, 2, none⟩ (.bool p2)).setCell ⟨w5.heap.size, 3, none⟩ (.int .i64 p3)).setCell ⟨w5.heap.size, 4, none⟩ (.int .i64 p4)) → TB w5 #[.bool p0, .bool p1, .bool p2, .int .i64 p3, .int .i64 p4] (.pointer (some ⟨w5.heap.size, 0, none⟩)) X ∧ Below w5.heap.size w5 X) := told_set (Below.step HW2.out bel5) N5; clear bel5 N5))
    all_goals
      go_wp2_with fail
      go_meet
      exact (T5.out _ rfl).1
  case rest =>
  obtain ⟨E2, rfl, hb9, hd9, be9⟩ := hcut
  generalize wc = w6 at *
  have HK' : Hid (Kr w w4.heap.size w6 [(w.heap.size, (.cells #[.int .i64 n, s] 24 (0, 0))), (D1, (.cells #[(.slice (some ⟨gw, 0, none⟩) css.length cw), (.slice (some ⟨gw, 0, none⟩) (css.length + 64) cw), (.slice ar L.length cr)] 28 (0, 0))), (D2, (.cells #[.int .i64 n, (.slice (some ⟨gw, 0, none⟩) css.length cw)] 24 (0, 0))), (E1, (.cells #[.bool p0, .bool p1, .bool p2, .int .i64 p3, .int .i64 p4] 33 (0, 0))), (E2, (.cells #[.bool p0, .bool p1, .bool p2, .int .i64 p3, .int .i64 p4] 33 (0, 0)))] []) := (HK.out.below be9).add hb9
  have D6 : Hid (w5.heap.size ≤ E2) := hd9
  have L6 : Hid (Below w5.heap.size w5 w6) := be9
  clear HSx HC HW1 HW2 hb9 hd9 be9 HK
  go_upto_region 7 with fail
  have HK := HK'
  clear HK'
  have L46 : Hid (Below w4.heap.size w4 w6) := Below.step L5.out L6.out
  have HSx : Hid (∀ W', Below w6.heap.size w6 W' → Below w6.heap.size w6 W' ∧ W'.cell? ⟨D2, 0, none⟩ = some (.int .i64 n) ∧ W'.cell? ⟨D2, 1, none⟩ = some (.slice (some ⟨gw, 0, none⟩) css.length cw)) := fun W' h => ⟨h, cell_ofB ((HK.out.below h).bx (D2, (.cells #[.int .i64 n, (.slice (some ⟨gw, 0, none⟩) css.length cw)] 24 (0, 0))) (by simp)) rfl, cell_ofB ((HK.out.below h).bx (D2, (.cells #[.int .i64 n, (.slice (some ⟨gw, 0, none⟩) css.length cw)] 24 (0, 0))) (by simp)) rfl⟩
  have HC : Hid (∀ W', Below w6.heap.size w6 W' → Calls Tryd.prog 8 #[.agg #[.int .i64 n, (.slice (some ⟨gw, 0, none⟩) css.length cw)], .int .i64 l] W' fun e w' => ∃ az cz, e = .returned (.slice az P1.length cz) ∧ Own W'.heap.size w' (.slice az P1.length cz) P1 ∧ Below W'.heap.size W' w') := fun W' h => HP1.out W' _ (HR4.out W' (Below.step L46.out h)).1
  have HW1 : Hid (Below w6.heap.size w6 w6.drew) := (Below.refl _ _).drew
  have HKd : Hid (Kr w w4.heap.size w6.drew [(w.heap.size, (.cells #[.int .i64 n, s] 24 (0, 0))), (D1, (.cells #[(.slice (some ⟨gw, 0, none⟩) css.length cw), (.slice (some ⟨gw, 0, none⟩) (css.length + 64) cw), (.slice ar L.length cr)] 28 (0, 0))), (D2, (.cells #[.int .i64 n, (.slice (some ⟨gw, 0, none⟩) css.length cw)] 24 (0, 0))), (E1, (.cells #[.bool p0, .bool p1, .bool p2, .int .i64 p3, .int .i64 p4] 33 (0, 0))), (E2, (.cells #[.bool p0, .bool p1, .bool p2, .int .i64 p3, .int .i64 p4] 33 (0, 0)))] []) := HK.out.below HW1.out
  go_cut [12, 13] from 44 to 49 (fun p q wx => ∃ ax cx ay cy, p = .slice ax P1.length cx ∧ q = .slice ay P1.length cy ∧ Below w6.heap.size w6 wx ∧ Kr w w4.heap.size wx [(w.heap.size, (.cells #[.int .i64 n, s] 24 (0, 0))), (D1, (.cells #[(.slice (some ⟨gw, 0, none⟩) css.length cw), (.slice (some ⟨gw, 0, none⟩) (css.length + 64) cw), (.slice ar L.length cr)] 28 (0, 0))), (D2, (.cells #[.int .i64 n, (.slice (some ⟨gw, 0, none⟩) css.length cw)] 24 (0, 0))), (E1, (.cells #[.bool p0, .bool p1, .bool p2, .int .i64 p3, .int .i64 p4] 33 (0, 0))), (E2, (.cells #[.bool p0, .bool p1, .bool p2, .int .i64 p3, .int .i64 p4] 33 (0, 0)))] [(.slice ax P1.length cx, P1), (.slice ay P1.length cy, P1)])
  case first =>
    go_region_held (fun W' => Below w6.heap.size w6 W' ∧ W'.cell? ⟨D2, 0, none⟩ = some (.int .i64 n) ∧ W'.cell? ⟨D2, 1, none⟩ = some (.slice (some ⟨gw, 0, none⟩) css.length cw)) (first | with_reducible exact HSx.out _ HW1.out | with_reducible exact HSx.out _ B8.out | with_reducible exact HSx.out _ B7.out) (first
      | (go_at_call 8; (with_reducible refine Calls.mono (HC.out _ HW1.out) ?_); rintro e w7' ⟨a7, c7, rfl, own7, bel7⟩; have B7 : Hid (Below w6.heap.size w6 w7') := Below.step HW1.out bel7; have K7 : Hid (Kr w w4.heap.size w7' [(w.heap.size, (.cells #[.int .i64 n, s] 24 (0, 0))), (D1, (.cells #[(.slice (some ⟨gw, 0, none⟩) css.length cw), (.slice (some ⟨gw, 0, none⟩) (css.length + 64) cw), (.slice ar L.length cr)] 28 (0, 0))), (D2, (.cells #[.int .i64 n, (.slice (some ⟨gw, 0, none⟩) css.length cw)] 24 (0, 0))), (E1, (.cells #[.bool p0, .bool p1, .bool p2, .int .i64 p3, .int .i64 p4] 33 (0, 0))), (E2, (.cells #[.bool p0, .bool p1, .bool p2, .int .i64 p3, .int .i64 p4] 33 (0, 0)))] [(.slice a7 P1.length c7, P1)]) := HKd.out.call bel7 own7; clear bel7 own7)
      | (go_at_call 8; (with_reducible refine Calls.mono (HC.out _ B7.out) ?_); rintro e w8' ⟨a8, c8, rfl, own8, bel8⟩; have B8 : Hid (Below w6.heap.size w6 w8') := Below.step B7.out bel8; have K8 : Hid (Kr w w4.heap.size w8' [(w.heap.size, (.cells #[.int .i64 n, s] 24 (0, 0))), (D1, (.cells #[(.slice (some ⟨gw, 0, none⟩) css.length cw), (.slice (some ⟨gw, 0, none⟩) (css.length + 64) cw), (.slice ar L.length cr)] 28 (0, 0))), (D2, (.cells #[.int .i64 n, (.slice (some ⟨gw, 0, none⟩) css.length cw)] 24 (0, 0))), (E1, (.cells #[.bool p0, .bool p1, .bool p2, .int .i64 p3, .int .i64 p4] 33 (0, 0))), (E2, (.cells #[.bool p0, .bool p1, .bool p2, .int .i64 p3, .int .i64 p4] 33 (0, 0)))] [(.slice a7 P1.length c7, P1), (.slice a8 P1.length c8, P1)]) := K7.out.call bel8 own8; clear bel8 own8))
    all_goals
      go_wp2_with fail
      go_meet
      first
        | (with_reducible exact ⟨a7, c7, a8, c8, rfl, rfl, B8.out, K8.out⟩)
        | (with_reducible exact ⟨a8, c8, a7, c7, rfl, rfl, B8.out, K8.out.swap⟩)
  case rest =>
  obtain ⟨ax, cx, ay, cy, rfl, rfl, be9, hk9⟩ := hcut
  generalize wc = w7 at *
  have HK' : Hid (Kr w w4.heap.size w7 [(w.heap.size, (.cells #[.int .i64 n, s] 24 (0, 0))), (D1, (.cells #[(.slice (some ⟨gw, 0, none⟩) css.length cw), (.slice (some ⟨gw, 0, none⟩) (css.length + 64) cw), (.slice ar L.length cr)] 28 (0, 0))), (D2, (.cells #[.int .i64 n, (.slice (some ⟨gw, 0, none⟩) css.length cw)] 24 (0, 0))), (E1, (.cells #[.bool p0, .bool p1, .bool p2, .int .i64 p3, .int .i64 p4] 33 (0, 0))), (E2, (.cells #[.bool p0, .bool p1, .bool p2, .int .i64 p3, .int .i64 p4] 33 (0, 0)))] [(.slice ax P1.length cx, P1), (.slice ay P1.length cy, P1)]) := hk9
  have L7 : Hid (Below w4.heap.size w4 w7) := Below.step L46.out be9
  clear HSx HC HW1 HKd be9 hk9 HK
  have HK := HK'
  clear HK'
  obtain ⟨x0, x1, x2, x3, x4, -⟩ := told_cells (HK.out.bx (E1, (.cells #[.bool p0, .bool p1, .bool p2, .int .i64 p3, .int .i64 p4] 33 (0, 0))) (by simp))
  obtain ⟨y0, y1, y2, y3, y4, -⟩ := told_cells (HK.out.bx (E2, (.cells #[.bool p0, .bool p1, .bool p2, .int .i64 p3, .int .i64 p4] 33 (0, 0))) (by simp))
  have z0 := cell_ofB (HK.out.bx (D1, (.cells #[(.slice (some ⟨gw, 0, none⟩) css.length cw), (.slice (some ⟨gw, 0, none⟩) (css.length + 64) cw), (.slice ar L.length cr)] 28 (0, 0))) (by simp)) (j := 0) rfl
  have z1 := cell_ofB (HK.out.bx (D1, (.cells #[(.slice (some ⟨gw, 0, none⟩) css.length cw), (.slice (some ⟨gw, 0, none⟩) (css.length + 64) cw), (.slice ar L.length cr)] 28 (0, 0))) (by simp)) (j := 1) rfl
  have z2 := cell_ofB (HK.out.bx (D1, (.cells #[(.slice (some ⟨gw, 0, none⟩) css.length cw), (.slice (some ⟨gw, 0, none⟩) (css.length + 64) cw), (.slice ar L.length cr)] 28 (0, 0))) (by simp)) (j := 2) rfl
  have d1 := cell_ofB (HK.out.bx (w.heap.size, (.cells #[.int .i64 n, s] 24 (0, 0))) (by simp)) (j := 1) rfl
  go_wp2_with fail
  refine Calls.mono (keptRows_any wa.heap.size (.slice (some ⟨gw, 0, none⟩) css.length cw) (.slice (some ⟨gw, 0, none⟩) (css.length + 64) cw) (.slice ar L.length cr) s css L M w7 (HLa.out _ (Below.step HDd.out.2.2.2.2 L7.out)).1 (HX.out _ HK.out.bel).1 (by omega)) ?_
  rintro e w8 ⟨rfl, be8⟩
  have HK8 : Hid (Kr w w4.heap.size w8 [(w.heap.size, (.cells #[.int .i64 n, s] 24 (0, 0))), (D1, (.cells #[(.slice (some ⟨gw, 0, none⟩) css.length cw), (.slice (some ⟨gw, 0, none⟩) (css.length + 64) cw), (.slice ar L.length cr)] 28 (0, 0))), (D2, (.cells #[.int .i64 n, (.slice (some ⟨gw, 0, none⟩) css.length cw)] 24 (0, 0))), (E1, (.cells #[.bool p0, .bool p1, .bool p2, .int .i64 p3, .int .i64 p4] 33 (0, 0))), (E2, (.cells #[.bool p0, .bool p1, .bool p2, .int .i64 p3, .int .i64 p4] 33 (0, 0)))] [(.slice ax P1.length cx, P1), (.slice ay P1.length cy, P1)]) := HK.out.below be8
  have L8 : Hid (Below w4.heap.size w4 w8) := Below.step L7.out be8
  clear be8 HK x0 x1 x2 x3 x4 y0 y1 y2 y3 y4 z0 z1 z2 d1
  go_wp2_with fail
  refine Calls.mono (kept_any w1.heap.size (.slice (some ⟨gq, 0, none⟩) (c.length + 64) cq) (.slice ac c.length cc) c w8 (HLa.out _ (Below.step HDd.out.2.2.2.2 L8.out)).2 (HX.out _ HK8.out.bel).2.1) ?_
  rintro e w9 ⟨rfl, be9⟩
  have HK : Hid (Kr w w4.heap.size w9 [(w.heap.size, (.cells #[.int .i64 n, s] 24 (0, 0))), (D1, (.cells #[(.slice (some ⟨gw, 0, none⟩) css.length cw), (.slice (some ⟨gw, 0, none⟩) (css.length + 64) cw), (.slice ar L.length cr)] 28 (0, 0))), (D2, (.cells #[.int .i64 n, (.slice (some ⟨gw, 0, none⟩) css.length cw)] 24 (0, 0))), (E1, (.cells #[.bool p0, .bool p1, .bool p2, .int .i64 p3, .int .i64 p4] 33 (0, 0))), (E2, (.cells #[.bool p0, .bool p1, .bool p2, .int .i64 p3, .int .i64 p4] 33 (0, 0)))] [(.slice ax P1.length cx, P1), (.slice ay P1.length cy, P1)]) := HK8.out.below be9
  have L9 : Hid (Below w4.heap.size w4 w9) := Below.step L8.out be9
  clear be9 HK8
  have HTn : Hid (Tn wa.heap.size w9 (some ⟨gw, 0, none⟩) css m64 L) := (HLa.out _ (Below.step HDd.out.2.2.2.2 L9.out)).1.tn
  have HNt : Hid (∀ k, TnB L k → wa.heap.size ≤ k ∧ k < w1.heap.size) := fun k ⟨x, hx, e⟩ => HLt.out.1 k (.inr (.inr ⟨x, hx, e⟩))
  have HZ0 : Hid (∀ wr, Fr (TnB L) w9 wr → wr.cell? ⟨D1, 0, none⟩ = some (.slice (some ⟨gw, 0, none⟩) css.length cw)) := fun wr hf => by
    have h5 := HK.out.bx (D1, (.cells #[(.slice (some ⟨gw, 0, none⟩) css.length cw), (.slice (some ⟨gw, 0, none⟩) (css.length + 64) cw), (.slice ar L.length cr)] 28 (0, 0))) (by simp)
    exact cell_ofB ((hf.block _ (bx_lt h5) (fun e => by have h6 := HNt.out _ e; have h7 := HSz.out; have h8 := HDd.out; omega)).trans h5) rfl
  have HLl : Hid (L.length = css.length) := HLt.out.2.1
  go_wp2
  go_loopg [14] css.length (fun q i' wr => ∃ k : Nat, k + q = css.length ∧ i' = .int .i64 k ∧ TkR wa.heap.size w9 wr css m64 L k)
  case atStart => exact ⟨0, by omega, rfl, TkR.start HTn.out⟩
  case round =>
    obtain ⟨k, hk, rfl, htk⟩ := hrel
    have HKk : Hid (k + gk = css.length) := hk
    have HT : Hid (TkR wa.heap.size w9 wr css m64 L k) := htk
    have z0 := HZ0.out wr htk.f
    clear hk htk
    by_cases hlt : k < css.length
    · have hkL : k < L.length := by have := HLl.out; omega
      obtain ⟨gw', egw, hgw, kc0, hng⟩ := HTn.out.cell k hkL
      have hbl := HT.out.f.block gw' hgw (fun ⟨x, hx, e⟩ => hng x hx e)
      have kc : wr.cell? ⟨gw', k, none⟩ = some (cutN m64.length (L[k]).1) := by rw [← kc0]; unfold World.cell?; rw [hbl]
      injection egw with egw
      injection egw with egw
      subst egw
      have ho := HT.out.o k hkL
      rw [if_neg (by omega)] at ho
      obtain ⟨au, cu, eu⟩ := own_form ho
      have hgu : some gw ≠ (L[k]).1.ownBlock := hng _ (List.getElem_mem hkL)
      have hgD : some D1 ≠ (L[k]).1.ownBlock := fun e => by have h6 := HNt.out D1 ⟨_, List.getElem_mem hkL, e⟩; have h7 := HSz.out; have h8 := HDd.out; omega
      have HSt : Hid (∀ W', Own wa.heap.size W' (L[k]).1 ((css.getD k []).map ngv ++ m64) → wr.grownBy W' (L[k]).1.ownBlock → TkR wa.heap.size w9 W' css m64 L (k + 1)) := fun W' h1 h2 => HT.out.step HTn.out.ap hkL h1 h2
      have HZ : Hid ((css.getD k []).length * 8 ≤ 140737488351232) := H8.out.1 _ (getD_inR hlt)
      have HLT : Hid (k < css.length) := hlt
      rw [eu] at kc ho hgu hgD
      simp only [eu] at HSt
      clear hbl kc0 hng eu hgw HT
      generalize css.getD k [] = z at *
      rw [show cutN m64.length (.slice au (z ++ m64).length cu) = .slice au z.length cu by simp [cutN]] at kc
      rw [List.length_append] at ho hgu HSt hgD
      have HO : Hid (Own wa.heap.size wr (.slice au (z.length + m64.length) cu) (tnJ z 0 ++ m64)) := (by simpa [tnJ] using ho : Own wa.heap.size wr (.slice au (z.length + m64.length) cu) (tnJ z 0 ++ m64))
      have HGu : Hid (some gw ≠ (Value.slice au (z.length + m64.length) cu).ownBlock ∧ some D1 ≠ (Value.slice au (z.length + m64.length) cu).ownBlock) := ⟨hgu, hgD⟩
      have HKc : Hid (wr.cell? ⟨gw, k, none⟩ = some (.slice au z.length cu) ∧ wr.cell? ⟨D1, 0, none⟩ = some (.slice (some ⟨gw, 0, none⟩) css.length cw)) := ⟨kc, z0⟩
      have hzl := HZ.out
      clear ho hgu kc hgD
      generalize hml : m64.length = ml at *
      go_wp2
      clear z0
      generalize wr = wk at *
      generalize gk = G at *
      go_loopg [15] z.length (fun q j' wr => ∃ j : Nat, j + q = z.length ∧ j' = .int .i64 j ∧ Own wa.heap.size wr (.slice au (z.length + ml) cu) (tnJ z j ++ m64) ∧ wk.grownBy wr (Value.slice au (z.length + ml) cu).ownBlock)
      case atStart => exact ⟨0, by omega, rfl, HO.out, ⟨rfl, rfl, rfl, Nat.le_refl _, fun _ _ _ => rfl⟩⟩
      case round =>
        obtain ⟨j, hj, rfl, ho, hg⟩ := hrel
        have HJ : Hid (j + gk = z.length) := hj
        have kc := cell_kept hg HGu.out.1 HKc.out.1
        have z0 := cell_kept hg HGu.out.2 HKc.out.2
        by_cases hjz : j < z.length
        · obtain ⟨g, cap, e, hcap, -, -⟩ := row_some ho (by rw [List.length_append, tnJ_len]; omega)
          rw [List.length_append, tnJ_len, hml] at e hcap
          injection e with e1 _ e3
          subst e1; subst e3
          have hcu : z.length ≤ cu := by omega
          have ho' : wr.ownsRow wa.heap.size 3 1 (.slice (some ⟨g, 0, none⟩) (z.length + ml) cu) (z.length + ml) ((tnJ z j ++ m64).map (Value.int .i64)) := by
            have := ho
            unfold Own at this
            rw [show (tnJ z j ++ m64).length = z.length + ml by rw [List.length_append, tnJ_len, hml]] at this
            exact this
          have u1 := row_cell ho' (j := j) (x := .int .i64 (z.getD j 0)) (by rw [List.getElem?_map, tnJ_at m64 hjz]; rfl)
          have u2 := row_fz ho' j
          have SX : Hid (Own wa.heap.size (wr.setCell ⟨g, j, none⟩ (.int .i64 (wrap64 (-(z.getD j 0))))) (.slice (some ⟨g, 0, none⟩) (z.length + ml) cu) (tnJ z (j + 1) ++ m64)) := by
            rw [← tnJ_set m64 hjz]
            exact own_store ho (by rw [List.length_append, tnJ_len, hml])
          have SG : Hid (wk.grownBy (wr.setCell ⟨g, j, none⟩ (.int .i64 (wrap64 (-(z.getD j 0))))) (some g)) := hg.trans (grown_setCell wr ⟨g, j, none⟩ _)
          have HJT : Hid (j < z.length) := hjz
          clear ho ho' hg hj HKc HO HGu HSt
          generalize z.getD j 0 = x at *
          go_wp2
          go_region
          all_goals
            go_wp2
            go_roundg (gk - 1)
            case measure => have := HJ.out; have := HJT.out; omega
            case rel => exact ⟨j + 1, by have := HJ.out; have := HJT.out; omega, by go_num, SX.out, ⟨SG.out.os, SG.out.tape, SG.out.output, SG.out.size, SG.out.block⟩⟩
        · obtain rfl : j = z.length := by omega
          have HK2 : Hid (TkR wa.heap.size w9 wr css m64 L (k + 1)) := HSt.out wr (by rw [← tnJ_all]; exact ho) hg
          clear ho hg hj
          go_wp2
          go_roundg (G - 1)
          case measure => have := HKk.out; have := HLT.out; omega
          case rel => exact ⟨k + 1, by have := HKk.out; have := HLT.out; omega, by go_num, HK2.out⟩
    · obtain rfl : k = css.length := by have := HKk.out; omega
      have HFr : Hid (Fr (TnB L) w9 wr ∧ Tn wa.heap.size wr (some ⟨gw, 0, none⟩) ds m64 (L.map (tnC m64))) := ⟨HT.out.f, by have h5 := HT.out; rw [← HLl.out] at h5; have h6 := h5.done HTn.out; rw [HDs.out] at h6; exact h6⟩
      generalize wr = wt at *
      clear HT HKk hlt
      have HRg : Hid (w.heap.size < wa.heap.size ∧ wa.heap.size ≤ w1.heap.size ∧ w1.heap.size ≤ w2.heap.size ∧ w2.heap.size ≤ D1 ∧ w2.heap.size ≤ D2 ∧ D1 < w4.heap.size ∧ D2 < w4.heap.size ∧ w4.heap.size ≤ E1 ∧ w4.heap.size ≤ E2 ∧ w1.heap.size ≤ gq ∧ gq < w2.heap.size) := ⟨HSz.out.1, HSz.out.2.1, HSz.out.2.2, HDd.out.1, HDd.out.2.1, HDd.out.2.2.1, HDd.out.2.2.2.1, D5.out, Nat.le_trans L5.out.size D6.out, HLt.out.2.2.2.1, HLt.out.2.2.2.2⟩
      have HKt : Hid (Kr w w4.heap.size wt [(w.heap.size, (.cells #[.int .i64 n, s] 24 (0, 0))), (D1, (.cells #[(.slice (some ⟨gw, 0, none⟩) css.length cw), (.slice (some ⟨gw, 0, none⟩) (css.length + 64) cw), (.slice ar L.length cr)] 28 (0, 0))), (D2, (.cells #[.int .i64 n, (.slice (some ⟨gw, 0, none⟩) css.length cw)] 24 (0, 0))), (E1, (.cells #[.bool p0, .bool p1, .bool p2, .int .i64 p3, .int .i64 p4] 33 (0, 0))), (E2, (.cells #[.bool p0, .bool p1, .bool p2, .int .i64 p3, .int .i64 p4] 33 (0, 0)))] [(.slice ax P1.length cx, P1), (.slice ay P1.length cy, P1)]) := HK.out.out HFr.out.1 (fun k hk => by have h5 := HNt.out k hk; have h6 := HRg.out; omega) (fun b hb hk => by
        have h5 := HNt.out _ hk
        have h6 := HRg.out
        simp only [List.mem_cons, List.not_mem_nil, or_false] at hb
        rcases hb with e | e | e | e | e <;> subst e <;> simp only at h5 <;> omega)
      have HQt : Hid (Own w1.heap.size wt (.slice (some ⟨gq, 0, none⟩) (c.length + 64) cq) (c ++ m64)) := own_out (HLa.out _ (Below.step HDd.out.2.2.2.2 L9.out)).2 HFr.out.1 (fun k hk => (HNt.out k hk).2)
      have HRt : Hid (∀ W, Below wt.heap.size wt W → Rds W (.slice (some ⟨gw, 0, none⟩) css.length cw) ds ∧ Rd W (.slice (some ⟨gq, 0, none⟩) c.length cq) c) := fun W h => by
        have h5 := HFr.out.2.rds (c := cw) (by omega) HCw.out.2 (by simp) (by have := H8.out.2.1; omega) HD8.out
        rw [hdl] at h5
        exact ⟨h5.below h, (own_hd HQt.out (by omega) (by have := H8.out.2.2.1; omega)).below h⟩
      have HLr : Hid (Lr wa.heap.size wt (.slice (some ⟨gw, 0, none⟩) (css.length + 64) cw) (.slice ar L.length cr) (L.map (tnC m64)) (L.map cutV ++ M.map Prod.fst) []) := (HLa.out _ (Below.step HDd.out.2.2.2.2 L9.out)).1.l.turned HFr.out.1 HFr.out.2
      have HLk : Hid ((L.map (tnC m64)).length ≤ 2147483648) := (by show (L.map (tnC m64)).length ≤ _; rw [List.length_map, HLl.out]; omega)
      have HLm : Hid ((∀ x ∈ L.map (tnC m64), x.2.length ≤ 35184372088832) ∧ (L.map cutV ++ M.map Prod.fst).length = css.length + 64) := ⟨fun x hx => by
        have h5 : x.2 ∈ (L.map (tnC m64)).map Prod.snd := List.mem_map.2 ⟨x, hx, rfl⟩
        rw [HFr.out.2.ls] at h5
        obtain ⟨y, hy, e⟩ := List.mem_map.1 h5
        rw [← e, List.length_append, m64_len]
        have := HD8.out y hy
        omega, by rw [List.length_append, List.length_map, List.length_map, HLl.out, HLt.out.2.2.1]⟩
      have HLo : Hid (∀ k, Lown (.slice (some ⟨gw, 0, none⟩) (css.length + 64) cw) (.slice ar L.length cr) (L.map (tnC m64)) k → wa.heap.size ≤ k ∧ k < w1.heap.size) := fun k hk => HLt.out.1 k (lown_turned hk)
      clear HK
      have HK := HKt
      have HKt0 : Hid (w4.heap.size ≤ wt.heap.size) := HKt.out.sz
      clear HKt HTn HNt HZ0 HFr
      go_upto_region 17 with fail
      have HSx : Hid (∀ W', Below wt.heap.size wt W' → Below wt.heap.size wt W' ∧ W'.cell? ⟨D2, 0, none⟩ = some (.int .i64 n) ∧ W'.cell? ⟨D2, 1, none⟩ = some (.slice (some ⟨gw, 0, none⟩) css.length cw)) := fun W' h => ⟨h, cell_ofB ((HK.out.below h).bx (D2, (.cells #[.int .i64 n, (.slice (some ⟨gw, 0, none⟩) css.length cw)] 24 (0, 0))) (by simp)) rfl, cell_ofB ((HK.out.below h).bx (D2, (.cells #[.int .i64 n, (.slice (some ⟨gw, 0, none⟩) css.length cw)] 24 (0, 0))) (by simp)) rfl⟩
      have HC : Hid (∀ W', Below wt.heap.size wt W' → Calls Tryd.prog 7 #[.agg #[.int .i64 n, (.slice (some ⟨gw, 0, none⟩) css.length cw)], (.slice (some ⟨gq, 0, none⟩) c.length cq)] W' fun e w' => e = .returned (.agg #[.bool q0, .bool q1, .bool q2, .int .i64 q3, .int .i64 q4]) ∧ Below W'.heap.size W' w') := fun W' h => HA2.out W' _ _ (HK.out.below h).bel (HRt.out W' h).1 (HRt.out W' h).2
      have HW1 : Hid (Below wt.heap.size wt wt.drew) := (Below.refl _ _).drew
      have HW2 : Hid (Below wt.heap.size wt ((wt.alloc (.cells #[.bool false, .bool false, .bool false, .int .i64 0, .int .i64 0] 33)).drew)) := (below_box _ _).drew
      go_cut [16] from 99 to 104 (fun p wx => TB wt #[.bool q0, .bool q1, .bool q2, .int .i64 q3, .int .i64 q4] p wx)
      case first =>
        go_region_held (fun W' => Below wt.heap.size wt W' ∧ W'.cell? ⟨D2, 0, none⟩ = some (.int .i64 n) ∧ W'.cell? ⟨D2, 1, none⟩ = some (.slice (some ⟨gw, 0, none⟩) css.length cw)) (first | with_reducible exact HSx.out _ HW1.out | with_reducible exact HSx.out _ HW2.out | with_reducible exact HSx.out _ B5.out | with_reducible exact HSx.out _ (Below.step B5.out (below_box _ _)) | with_reducible exact HSx.out _ (T5.out _ rfl).2) (first
          | (go_at_call 7; (with_reducible refine Calls.mono (HC.out _ HW1.out) ?_); rintro e w5' ⟨rfl, bel5⟩; have B5 : Hid (Below wt.heap.size wt w5') := Below.step HW1.out bel5; have T5 : Hid (∀ X, X = w5'.alloc (.cells #[.bool q0, .bool q1, .bool q2, .int .i64 q3, .int .i64 q4] 33) → TB wt #[.bool q0, .bool q1, .bool q2, .int .i64 q3, .int .i64 q4] (.pointer (some ⟨w5'.heap.size, 0, none⟩)) X ∧ Below wt.heap.size wt X) := told_new (Below.step HW1.out bel5) _; clear bel5)
          | (go_at_call 7; (with_reducible refine Calls.mono (HC.out _ HW2.out) ?_); rintro e w5' ⟨rfl, bel5⟩; have B5 : Hid (Below wt.heap.size wt w5') := Below.step HW2.out bel5; have N5 := told_old bel5; obtain ⟨x0, x1, x2, x3, x4, xf⟩ := told_cells N5; have T5 : Hid (∀ X, X = (((((w5'.setCell ⟨wt.heap.size, 0, none⟩ (.bool q0)).setCell ⟨wt.heap.size, 1, none⟩ (.bool q1)).setCell ⟨wt.heap.size, 2, none⟩ (.bool q2)).setCell ⟨wt.heap.size, 3, none⟩ (.int .i64 q3)).setCell ⟨wt.heap.size, 4, none⟩ (.int .i64 q4)) → TB wt #[.bool q0, .bool q1, .bool q2, .int .i64 q3, .int .i64 q4] (.pointer (some ⟨wt.heap.size, 0, none⟩)) X ∧ Below wt.heap.size wt X) := told_set (Below.step HW2.out bel5) N5; clear bel5 N5))
        all_goals
          go_wp2_with fail
          go_meet
          exact (T5.out _ rfl).1
      case rest =>
      obtain ⟨E3, rfl, hb9, hd9, be9⟩ := hcut
      generalize wc = w10 at *
      have HK' : Hid (Kr w w4.heap.size w10 [(w.heap.size, (.cells #[.int .i64 n, s] 24 (0, 0))), (D1, (.cells #[(.slice (some ⟨gw, 0, none⟩) css.length cw), (.slice (some ⟨gw, 0, none⟩) (css.length + 64) cw), (.slice ar L.length cr)] 28 (0, 0))), (D2, (.cells #[.int .i64 n, (.slice (some ⟨gw, 0, none⟩) css.length cw)] 24 (0, 0))), (E1, (.cells #[.bool p0, .bool p1, .bool p2, .int .i64 p3, .int .i64 p4] 33 (0, 0))), (E2, (.cells #[.bool p0, .bool p1, .bool p2, .int .i64 p3, .int .i64 p4] 33 (0, 0))), (E3, (.cells #[.bool q0, .bool q1, .bool q2, .int .i64 q3, .int .i64 q4] 33 (0, 0)))] [(.slice ax P1.length cx, P1), (.slice ay P1.length cy, P1)]) := (HK.out.below be9).add hb9
      have D10 : Hid (wt.heap.size ≤ E3) := hd9
      have L10 : Hid (Below wt.heap.size wt w10) := be9
      clear HSx HC HW1 HW2 hb9 hd9 be9 HK
      have HK := HK'
      clear HK'
      have d0 := cell_ofB (HK.out.bx (D2, (.cells #[.int .i64 n, (.slice (some ⟨gw, 0, none⟩) css.length cw)] 24 (0, 0))) (by simp)) (j := 0) rfl
      have d1 := cell_ofB (HK.out.bx (D2, (.cells #[.int .i64 n, (.slice (some ⟨gw, 0, none⟩) css.length cw)] 24 (0, 0))) (by simp)) (j := 1) rfl
      go_wp2_with fail
      refine Calls.mono (HP2.out _ _ (HRt.out _ L10.out).1) ?_
      rintro e w11 ⟨ad, cd, rfl, own9, be9⟩
      have HK' : Hid (Kr w w4.heap.size w11 [(w.heap.size, (.cells #[.int .i64 n, s] 24 (0, 0))), (D1, (.cells #[(.slice (some ⟨gw, 0, none⟩) css.length cw), (.slice (some ⟨gw, 0, none⟩) (css.length + 64) cw), (.slice ar L.length cr)] 28 (0, 0))), (D2, (.cells #[.int .i64 n, (.slice (some ⟨gw, 0, none⟩) css.length cw)] 24 (0, 0))), (E1, (.cells #[.bool p0, .bool p1, .bool p2, .int .i64 p3, .int .i64 p4] 33 (0, 0))), (E2, (.cells #[.bool p0, .bool p1, .bool p2, .int .i64 p3, .int .i64 p4] 33 (0, 0))), (E3, (.cells #[.bool q0, .bool q1, .bool q2, .int .i64 q3, .int .i64 q4] 33 (0, 0)))] [(.slice ax P1.length cx, P1), (.slice ay P1.length cy, P1), (.slice ad P2.length cd, P2)]) := HK.out.call be9 own9
      have L11 : Hid (Below wt.heap.size wt w11) := Below.step L10.out be9
      clear d0 d1 own9 be9 HK
      have HK := HK'
      clear HK'
      go_upto_region 19 with fail
      have HSx : Hid (∀ W', Below w11.heap.size w11 W' → Below w11.heap.size w11 W' ∧ W'.cell? ⟨w.heap.size, 0, none⟩ = some (.int .i64 n) ∧ W'.cell? ⟨D1, 0, none⟩ = some (.slice (some ⟨gw, 0, none⟩) css.length cw)) := fun W' h => ⟨h, cell_ofB ((HK.out.below h).bx (w.heap.size, (.cells #[.int .i64 n, s] 24 (0, 0))) (by simp)) rfl, cell_ofB ((HK.out.below h).bx (D1, (.cells #[(.slice (some ⟨gw, 0, none⟩) css.length cw), (.slice (some ⟨gw, 0, none⟩) (css.length + 64) cw), (.slice ar L.length cr)] 28 (0, 0))) (by simp)) rfl⟩
      have HC : Hid (∀ W', Below w11.heap.size w11 W' → Calls Tryd.prog 11 #[(.slice (some ⟨gw, 0, none⟩) css.length cw)] W' fun e w' => ∃ az cz, e = .returned (.slice az css.length cz) ∧ OwnF w11.heap.size w' (.slice az css.length cz) ds ∧ Below W'.heap.size W' w') := fun W' h => by
        have h5 := (HRt.out W' (Below.step L11.out h)).1
        refine (copyClauses_any _ ds W' h5).mono ?_
        rintro e w' ⟨u, he, ho, hb⟩
        obtain ⟨az, cz, eu⟩ := ownf_form ho
        subst eu
        have h6 := ho.mono h.size
        rw [hdl] at h6 he
        exact ⟨az, cz, he, h6, hb⟩
      have HW1 : Hid (Below w11.heap.size w11 w11.drew) := (Below.refl _ _).drew
      have HW2 : Hid (Below w11.heap.size w11 ((w11.alloc (.cells #[.int .i64 0, .slice none 0 0] 24)).drew)) := (below_box _ _).drew
      go_cut [18] from 108 to 113 (fun p wx => FBx w11 n css.length ds p wx)
      case first =>
        go_region_held (fun W' => Below w11.heap.size w11 W' ∧ W'.cell? ⟨w.heap.size, 0, none⟩ = some (.int .i64 n) ∧ W'.cell? ⟨D1, 0, none⟩ = some (.slice (some ⟨gw, 0, none⟩) css.length cw)) (first | with_reducible exact HSx.out _ HW1.out | with_reducible exact HSx.out _ HW2.out | with_reducible exact HSx.out _ B5.out | with_reducible exact HSx.out _ (Below.step B5.out (below_box _ _)) | with_reducible exact HSx.out _ (T5.out _ rfl).2) (first
          | (go_at_call 11; (with_reducible refine Calls.mono (HC.out _ HW1.out) ?_); rintro e w5' ⟨az, cz, rfl, rd5, bel5⟩; have B5 : Hid (Below w11.heap.size w11 w5') := Below.step HW1.out bel5; have T5 : Hid (∀ X, X = w5'.alloc (.cells #[.int .i64 n, .slice az css.length cz] 24) → FBx w11 n css.length ds (.pointer (some ⟨w5'.heap.size, 0, none⟩)) X ∧ Below w11.heap.size w11 X) := fb_new (Below.step HW1.out bel5) rd5; clear bel5 rd5)
          | (go_at_call 11; (with_reducible refine Calls.mono (HC.out _ HW2.out) ?_); rintro e w5' ⟨az, cz, rfl, rd5, bel5⟩; have B5 : Hid (Below w11.heap.size w11 w5') := Below.step HW2.out bel5; have N5 := fb_old bel5; have x0 := cell_ofB N5 (j := 0) rfl; have x1 := cell_ofB N5 (j := 1) rfl; have xf : ∀ j, w5'.frozen? ⟨w11.heap.size, j, none⟩ = false := (fun j => by simp [World.frozen?, N5]); have T5 : Hid (∀ X, X = ((w5'.setCell ⟨w11.heap.size, 0, none⟩ (.int .i64 n)).setCell ⟨w11.heap.size, 1, none⟩ (.slice az css.length cz)) → FBx w11 n css.length ds (.pointer (some ⟨w11.heap.size, 0, none⟩)) X ∧ Below w11.heap.size w11 X) := fb_set (Below.step HW2.out bel5) N5 rd5; clear bel5 N5 rd5))
        all_goals
          go_wp2_with fail
          go_meet
          exact (T5.out _ rfl).1
      case rest =>
      obtain ⟨E4, a4, c4, rfl, hb9, rd9, hd9, be9⟩ := hcut
      generalize wc = w12 at *
      have HK' : Hid (Kr w w4.heap.size w12 [(w.heap.size, (.cells #[.int .i64 n, s] 24 (0, 0))), (D1, (.cells #[(.slice (some ⟨gw, 0, none⟩) css.length cw), (.slice (some ⟨gw, 0, none⟩) (css.length + 64) cw), (.slice ar L.length cr)] 28 (0, 0))), (D2, (.cells #[.int .i64 n, (.slice (some ⟨gw, 0, none⟩) css.length cw)] 24 (0, 0))), (E1, (.cells #[.bool p0, .bool p1, .bool p2, .int .i64 p3, .int .i64 p4] 33 (0, 0))), (E2, (.cells #[.bool p0, .bool p1, .bool p2, .int .i64 p3, .int .i64 p4] 33 (0, 0))), (E3, (.cells #[.bool q0, .bool q1, .bool q2, .int .i64 q3, .int .i64 q4] 33 (0, 0))), (E4, (.cells #[.int .i64 n, .slice a4 css.length c4] 24 (0, 0)))] [(.slice ax P1.length cx, P1), (.slice ay P1.length cy, P1), (.slice ad P2.length cd, P2)]) := (HK.out.below be9).add hb9
      have HR12 : Hid (Rds w12 (.slice a4 css.length c4) ds) := rd9.rds (by have := H8.out.2.1; omega) HD8.out
      have L12 : Hid (Below wt.heap.size wt w12) := Below.step L11.out be9
      have D12 : Hid (w11.heap.size ≤ E4) := hd9
      clear HSx HC HW1 HW2 hb9 rd9 hd9 be9 HK
      have HK := HK'
      clear HK'
      go_upto_region 20 with fail
      have HSx : Hid (∀ W', Below w12.heap.size w12 W' → Below w12.heap.size w12 W' ∧ W'.cell? ⟨E3, 0, none⟩ = some (.bool q0) ∧ W'.cell? ⟨E3, 1, none⟩ = some (.bool q1) ∧ W'.cell? ⟨E3, 2, none⟩ = some (.bool q2) ∧ W'.cell? ⟨E3, 3, none⟩ = some (.int .i64 q3) ∧ W'.cell? ⟨E3, 4, none⟩ = some (.int .i64 q4) ∧ W'.cell? ⟨E4, 0, none⟩ = some (.int .i64 n) ∧ W'.cell? ⟨E4, 1, none⟩ = some (.slice a4 css.length c4)) := fun W' h => by
        have h5 := (HK.out.below h).bx (E3, (.cells #[.bool q0, .bool q1, .bool q2, .int .i64 q3, .int .i64 q4] 33 (0, 0))) (by simp)
        have h6 := (HK.out.below h).bx (E4, (.cells #[.int .i64 n, .slice a4 css.length c4] 24 (0, 0))) (by simp)
        exact ⟨h, cell_ofB h5 rfl, cell_ofB h5 rfl, cell_ofB h5 rfl, cell_ofB h5 rfl, cell_ofB h5 rfl, cell_ofB h6 rfl, cell_ofB h6 rfl⟩
      have HCi : Hid (Calls Tryd.prog 12 #[(.slice ac c.length cc)] w12.drew fun e w' => ∃ ai ci, e = .returned (.slice ai c.length ci) ∧ Rd w' (.slice ai c.length ci) c ∧ Below w12.heap.size w12 w') := by
        have h5 := (HX.out _ (HK.out.below (Below.refl _ _).drew).bel).2.1
        refine (copyInts_any _ c w12.drew h5).mono ?_
        rintro e w' ⟨u, he, ho, hb⟩
        obtain ⟨ai, ci, eu⟩ := own_form ho
        subst eu
        exact ⟨ai, ci, he, ho.rd h5.len, Below.step (Below.refl _ _).drew hb⟩
      have HCa : Hid (∀ W' ai ci, Below w12.heap.size w12 W' → Rd W' (.slice ai c.length ci) c → Calls Tryd.prog 7 #[.agg #[.int .i64 n, .slice a4 css.length c4], .slice ai c.length ci] W' fun e w' => e = .returned (.agg #[.bool q0, .bool q1, .bool q2, .int .i64 q3, .int .i64 q4]) ∧ Below w12.heap.size w12 w') := fun W' ai ci h h1 => (HA2.out W' _ _ (HK.out.below h).bel (HR12.out.below h) h1).mono fun e w' ⟨he, hb⟩ => ⟨he, Below.step h hb⟩
      have HCp : Hid (∀ W', Below w12.heap.size w12 W' → Calls Tryd.prog 8 #[.agg #[.int .i64 n, .slice a4 css.length c4], .int .i64 l] W' fun e w' => ∃ az cz, e = .returned (.slice az P2.length cz) ∧ Rd w' (.slice az P2.length cz) P2 ∧ Below w12.heap.size w12 w') := fun W' h => (HP2.out W' _ (HR12.out.below h)).mono fun e w' ⟨az, cz, he, ho, hb⟩ => ⟨az, cz, he, ho.rd (by have := HPl.out.2; omega), Below.step h hb⟩
      have HCs : Hid (∀ W' az cz, Below w12.heap.size w12 W' → Rd W' (.slice az P2.length cz) P2 → Calls Tryd.prog 13 #[.slice ad P2.length cd, .slice az P2.length cz] W' fun e w' => e = .returned (.bool true) ∧ Below w12.heap.size w12 w') := fun W' az cz h h1 => by
        have h5 := sameInts_any _ _ P2 P2 W' (((HK.out.below h).own (.slice ad P2.length cd, P2) (by simp)).rd (by have := HPl.out.2; show P2.length * 8 ≤ _; omega)) h1
        rw [show (P2 == P2) = true by simp] at h5
        exact h5.mono fun e w' ⟨he, hb⟩ => ⟨he, Below.step h hb⟩
      have HW1 : Hid (Below w12.heap.size w12 w12.drew) := (Below.refl _ _).drew
      go_cut [127] from 114 to 127 (fun p wx => p = .bool false ∧ Below w12.heap.size w12 wx)
      case first =>
        go_region_held (fun W' => Below w12.heap.size w12 W' ∧ W'.cell? ⟨E3, 0, none⟩ = some (.bool q0) ∧ W'.cell? ⟨E3, 1, none⟩ = some (.bool q1) ∧ W'.cell? ⟨E3, 2, none⟩ = some (.bool q2) ∧ W'.cell? ⟨E3, 3, none⟩ = some (.int .i64 q3) ∧ W'.cell? ⟨E3, 4, none⟩ = some (.int .i64 q4) ∧ W'.cell? ⟨E4, 0, none⟩ = some (.int .i64 n) ∧ W'.cell? ⟨E4, 1, none⟩ = some (.slice a4 css.length c4)) (first | with_reducible exact HSx.out _ HW1.out | with_reducible exact HSx.out _ G4.out | with_reducible exact HSx.out _ G3.out.1 | with_reducible exact HSx.out _ G2.out | with_reducible exact HSx.out _ G1.out.1) (first
          | (go_at_call 12; (with_reducible refine Calls.mono HCi.out ?_); rintro e y1 ⟨ai, ci, rfl, rd5, bel5⟩; have G1 : Hid (Below w12.heap.size w12 y1 ∧ Rd y1 (.slice ai c.length ci) c) := ⟨bel5, rd5⟩; clear rd5 bel5)
          | (go_at_call 7; (with_reducible refine Calls.mono (HCa.out _ _ _ G1.out.1 G1.out.2) ?_); rintro e y2 ⟨rfl, bel5⟩; have G2 : Hid (Below w12.heap.size w12 y2) := bel5; clear bel5)
          | (go_at_call 8; (with_reducible refine Calls.mono (HCp.out _ G2.out) ?_); rintro e y3 ⟨az, cz, rfl, rd5, bel5⟩; have G3 : Hid (Below w12.heap.size w12 y3 ∧ Rd y3 (.slice az P2.length cz) P2) := ⟨bel5, rd5⟩; clear rd5 bel5)
          | (go_at_call 13; (with_reducible refine Calls.mono (HCs.out _ _ _ G3.out.1 G3.out.2) ?_); rintro e y4 ⟨rfl, bel5⟩; have G4 : Hid (Below w12.heap.size w12 y4) := bel5; clear bel5))
        all_goals
          go_wp2_with fail
          go_meet
          exact ⟨rfl, G4.out⟩
      case rest =>
      obtain ⟨rfl, be9⟩ := hcut
      generalize wc = w13 at *
      have HK' : Hid (Kr w w4.heap.size w13 [(w.heap.size, (.cells #[.int .i64 n, s] 24 (0, 0))), (D1, (.cells #[(.slice (some ⟨gw, 0, none⟩) css.length cw), (.slice (some ⟨gw, 0, none⟩) (css.length + 64) cw), (.slice ar L.length cr)] 28 (0, 0))), (D2, (.cells #[.int .i64 n, (.slice (some ⟨gw, 0, none⟩) css.length cw)] 24 (0, 0))), (E1, (.cells #[.bool p0, .bool p1, .bool p2, .int .i64 p3, .int .i64 p4] 33 (0, 0))), (E2, (.cells #[.bool p0, .bool p1, .bool p2, .int .i64 p3, .int .i64 p4] 33 (0, 0))), (E3, (.cells #[.bool q0, .bool q1, .bool q2, .int .i64 q3, .int .i64 q4] 33 (0, 0))), (E4, (.cells #[.int .i64 n, .slice a4 css.length c4] 24 (0, 0)))] [(.slice ax P1.length cx, P1), (.slice ay P1.length cy, P1), (.slice ad P2.length cd, P2)]) := HK.out.below be9
      have L13 : Hid (Below wt.heap.size wt w13) := Below.step L12.out be9
      clear HSx HCi HCa HCp HCs HW1 be9 HK
      have HK := HK'
      clear HK'
      have z0 := cell_ofB (HK.out.bx (D1, (.cells #[(.slice (some ⟨gw, 0, none⟩) css.length cw), (.slice (some ⟨gw, 0, none⟩) (css.length + 64) cw), (.slice ar L.length cr)] 28 (0, 0))) (by simp)) (j := 0) rfl
      have z1 := cell_ofB (HK.out.bx (D1, (.cells #[(.slice (some ⟨gw, 0, none⟩) css.length cw), (.slice (some ⟨gw, 0, none⟩) (css.length + 64) cw), (.slice ar L.length cr)] 28 (0, 0))) (by simp)) (j := 1) rfl
      have z2 := cell_ofB (HK.out.bx (D1, (.cells #[(.slice (some ⟨gw, 0, none⟩) css.length cw), (.slice (some ⟨gw, 0, none⟩) (css.length + 64) cw), (.slice ar L.length cr)] 28 (0, 0))) (by simp)) (j := 2) rfl
      go_wp2_with fail
      have h9 := HLr.out.below L13.out
      refine Calls.mono (overRows2_any wa.heap.size (.slice (some ⟨gw, 0, none⟩) css.length cw) (.slice ar L.length cr) gw cw (css.length + 64) (L.map (tnC m64)) (L.map cutV ++ M.map Prod.fst) [] w13 h9 HLm.out.2 (by omega) HLk.out HLm.out.1 (by have h5 := HRg.out; have h6 := HK.out.sz; omega)) ?_
      rintro e w14 ⟨rfl, hf9, -⟩
      have HEs : Hid (w4.heap.size ≤ E3 ∧ w4.heap.size ≤ E4) := ⟨Nat.le_trans HKt0.out D10.out, Nat.le_trans (Nat.le_trans HKt0.out L11.out.size) D12.out⟩
      have HK' : Hid (Kr w w4.heap.size w14 [(w.heap.size, (.cells #[.int .i64 n, s] 24 (0, 0))), (D1, (.cells #[(.slice (some ⟨gw, 0, none⟩) css.length cw), (.slice (some ⟨gw, 0, none⟩) (css.length + 64) cw), (.slice ar L.length cr)] 28 (0, 0))), (D2, (.cells #[.int .i64 n, (.slice (some ⟨gw, 0, none⟩) css.length cw)] 24 (0, 0))), (E1, (.cells #[.bool p0, .bool p1, .bool p2, .int .i64 p3, .int .i64 p4] 33 (0, 0))), (E2, (.cells #[.bool p0, .bool p1, .bool p2, .int .i64 p3, .int .i64 p4] 33 (0, 0))), (E3, (.cells #[.bool q0, .bool q1, .bool q2, .int .i64 q3, .int .i64 q4] 33 (0, 0))), (E4, (.cells #[.int .i64 n, .slice a4 css.length c4] 24 (0, 0)))] [(.slice ax P1.length cx, P1), (.slice ay P1.length cy, P1), (.slice ad P2.length cd, P2)]) := HK.out.out hf9 (fun k hk => by have h5 := HLo.out k hk; have h6 := HRg.out; omega) (fun b hb hk => by
        have h5 := HLo.out _ hk
        have h6 := HRg.out
        have h7 := HEs.out
        simp only [List.mem_cons, List.not_mem_nil, or_false] at hb
        rcases hb with e | e | e | e | e | e | e <;> subst e <;> simp only at h5 <;> omega)
      have HQ' : Hid (Own w1.heap.size w14 (.slice (some ⟨gq, 0, none⟩) (c.length + 64) cq) (c ++ m64)) := own_out (HQt.out.below L13.out) hf9 (fun k hk => (HLo.out k hk).2)
      clear h9 hf9 HK z0 z1 z2
      go_wp2_with fail
      refine Calls.mono (over_any w1.heap.size (.slice (some ⟨gq, 0, none⟩) (c.length + 64) cq) (c ++ m64) w14 HQ'.out (by rw [List.length_append, m64_len]; have := H8.out.2.2.1; omega)) ?_
      rintro e w15 ⟨⟨v9, rfl⟩, -, hg9⟩
      have hf9 := fr_grown (g := gq) hg9
      have HK : Hid (Kr w w4.heap.size w15 [(w.heap.size, (.cells #[.int .i64 n, s] 24 (0, 0))), (D1, (.cells #[(.slice (some ⟨gw, 0, none⟩) css.length cw), (.slice (some ⟨gw, 0, none⟩) (css.length + 64) cw), (.slice ar L.length cr)] 28 (0, 0))), (D2, (.cells #[.int .i64 n, (.slice (some ⟨gw, 0, none⟩) css.length cw)] 24 (0, 0))), (E1, (.cells #[.bool p0, .bool p1, .bool p2, .int .i64 p3, .int .i64 p4] 33 (0, 0))), (E2, (.cells #[.bool p0, .bool p1, .bool p2, .int .i64 p3, .int .i64 p4] 33 (0, 0))), (E3, (.cells #[.bool q0, .bool q1, .bool q2, .int .i64 q3, .int .i64 q4] 33 (0, 0))), (E4, (.cells #[.int .i64 n, .slice a4 css.length c4] 24 (0, 0)))] [(.slice ax P1.length cx, P1), (.slice ay P1.length cy, P1), (.slice ad P2.length cd, P2)]) := HK'.out.out hf9 (fun k hk => by have h6 := HRg.out; omega) (fun b hb hk => by
        have h5 := hk
        have h6 := HRg.out
        have h7 := HEs.out
        simp only [List.mem_cons, List.not_mem_nil, or_false] at hb
        rcases hb with e | e | e | e | e | e | e <;> subst e <;> simp only at h5 <;> omega)
      clear hg9 hf9 HK' HQ'
      have d0 := cell_ofB (HK.out.bx (w.heap.size, (.cells #[.int .i64 n, s] 24 (0, 0))) (by simp)) (j := 0) rfl
      have d1 := cell_ofB (HK.out.bx (w.heap.size, (.cells #[.int .i64 n, s] 24 (0, 0))) (by simp)) (j := 1) rfl
      go_wp2_with fail
      refine Calls.mono (HP1.out w15 s (HX.out _ HK.out.bel).1) ?_
      rintro e w16 ⟨aw, cw', rfl, ow9, be9⟩
      have HK' : Hid (Kr w w4.heap.size w16 [(w.heap.size, (.cells #[.int .i64 n, s] 24 (0, 0))), (D1, (.cells #[(.slice (some ⟨gw, 0, none⟩) css.length cw), (.slice (some ⟨gw, 0, none⟩) (css.length + 64) cw), (.slice ar L.length cr)] 28 (0, 0))), (D2, (.cells #[.int .i64 n, (.slice (some ⟨gw, 0, none⟩) css.length cw)] 24 (0, 0))), (E1, (.cells #[.bool p0, .bool p1, .bool p2, .int .i64 p3, .int .i64 p4] 33 (0, 0))), (E2, (.cells #[.bool p0, .bool p1, .bool p2, .int .i64 p3, .int .i64 p4] 33 (0, 0))), (E3, (.cells #[.bool q0, .bool q1, .bool q2, .int .i64 q3, .int .i64 q4] 33 (0, 0))), (E4, (.cells #[.int .i64 n, .slice a4 css.length c4] 24 (0, 0)))] [(.slice ax P1.length cx, P1), (.slice ay P1.length cy, P1), (.slice ad P2.length cd, P2)]) := HK.out.below be9
      have HW : Hid (Rd w16 (.slice aw P1.length cw') P1) := ow9.rd (by have := HPl.out.1; omega)
      clear ow9 be9 HK d0 d1
      have HK := HK'
      clear HK'
      go_upto_region 25 with fail
      have HSx : Hid (∀ W', Below w16.heap.size w16 W' → Below w16.heap.size w16 W' ∧ W'.cell? ⟨E1, 0, none⟩ = some (.bool p0) ∧ W'.cell? ⟨E1, 1, none⟩ = some (.bool p1) ∧ W'.cell? ⟨E1, 2, none⟩ = some (.bool p2) ∧ W'.cell? ⟨E1, 3, none⟩ = some (.int .i64 p3) ∧ W'.cell? ⟨E1, 4, none⟩ = some (.int .i64 p4) ∧ W'.cell? ⟨w.heap.size, 0, none⟩ = some (.int .i64 n) ∧ W'.cell? ⟨w.heap.size, 1, none⟩ = some s) := fun W' h => by
        have h5 := (HK.out.below h).bx (E1, (.cells #[.bool p0, .bool p1, .bool p2, .int .i64 p3, .int .i64 p4] 33 (0, 0))) (by simp)
        have h6 := (HK.out.below h).bx (w.heap.size, (.cells #[.int .i64 n, s] 24 (0, 0))) (by simp)
        exact ⟨h, cell_ofB h5 rfl, cell_ofB h5 rfl, cell_ofB h5 rfl, cell_ofB h5 rfl, cell_ofB h5 rfl, cell_ofB h6 rfl, cell_ofB h6 rfl⟩
      have HCs : Hid (∀ W' a9 c9, (Value.slice a9 P1.length c9, P1) ∈ [(.slice ax P1.length cx, P1), (.slice ay P1.length cy, P1), (.slice ad P2.length cd, P2)] → Below w16.heap.size w16 W' → Calls Tryd.prog 13 #[.slice a9 P1.length c9, .slice aw P1.length cw'] W' fun e w' => e = .returned (.bool true) ∧ Below w16.heap.size w16 w') := fun W' a9 c9 hm h => by
        have h5 := sameInts_any _ _ P1 P1 W' (((HK.out.below h).own (.slice a9 P1.length c9, P1) hm).rd (by have := HPl.out.1; show P1.length * 8 ≤ _; omega)) (HW.out.below h)
        rw [show (P1 == P1) = true by simp] at h5
        exact h5.mono fun e w' ⟨he, hb⟩ => ⟨he, Below.step h hb⟩
      have HCx : Hid (∀ W', Below w16.heap.size w16 W' → Calls Tryd.prog 13 #[.slice ax P1.length cx, .slice aw P1.length cw'] W' fun e w' => e = .returned (.bool true) ∧ Below w16.heap.size w16 w') := fun W' h => HCs.out W' ax cx (by simp) h
      have HCy : Hid (∀ W', Below w16.heap.size w16 W' → Calls Tryd.prog 13 #[.slice ay P1.length cy, .slice aw P1.length cw'] W' fun e w' => e = .returned (.bool true) ∧ Below w16.heap.size w16 w') := fun W' h => HCs.out W' ay cy (by simp) h
      have HCa : Hid (∀ W', Below w16.heap.size w16 W' → Calls Tryd.prog 7 #[.agg #[.int .i64 n, s], (.slice ac c.length cc)] W' fun e w' => e = .returned (.agg #[.bool p0, .bool p1, .bool p2, .int .i64 p3, .int .i64 p4]) ∧ Below w16.heap.size w16 w') := fun W' h => (HA1.out W' _ _ (HK.out.below h).bel (HX.out _ (HK.out.below h).bel).1 (HX.out _ (HK.out.below h).bel).2.1).mono fun e w' ⟨he, hb⟩ => ⟨he, Below.step h hb⟩
      have HW1 : Hid (Below w16.heap.size w16 w16.drew) := (Below.refl _ _).drew
      clear HCs
      go_cut [151] from 135 to 151 (fun p wx => p = .bool false ∧ Below w16.heap.size w16 wx)
      case first =>
        go_region_held (fun W' => Below w16.heap.size w16 W' ∧ W'.cell? ⟨E1, 0, none⟩ = some (.bool p0) ∧ W'.cell? ⟨E1, 1, none⟩ = some (.bool p1) ∧ W'.cell? ⟨E1, 2, none⟩ = some (.bool p2) ∧ W'.cell? ⟨E1, 3, none⟩ = some (.int .i64 p3) ∧ W'.cell? ⟨E1, 4, none⟩ = some (.int .i64 p4) ∧ W'.cell? ⟨w.heap.size, 0, none⟩ = some (.int .i64 n) ∧ W'.cell? ⟨w.heap.size, 1, none⟩ = some s) (first | with_reducible exact HSx.out _ HW1.out | with_reducible exact HSx.out _ G3.out | with_reducible exact HSx.out _ G2.out | with_reducible exact HSx.out _ G1.out) (first
          | (go_at_call 13; (with_reducible refine Calls.mono (HCx.out _ HW1.out) ?_); rintro e y1 ⟨rfl, bel5⟩; have G1 : Hid (Below w16.heap.size w16 y1) := bel5; clear bel5)
          | (go_at_call 13; (with_reducible refine Calls.mono (HCy.out _ G1.out) ?_); rintro e y2 ⟨rfl, bel5⟩; have G2 : Hid (Below w16.heap.size w16 y2) := bel5; clear bel5)
          | (go_at_call 7; (with_reducible refine Calls.mono (HCa.out _ G2.out) ?_); rintro e y3 ⟨rfl, bel5⟩; have G3 : Hid (Below w16.heap.size w16 y3) := bel5; clear bel5))
        all_goals
          go_wp2_with fail
          go_meet
          exact ⟨rfl, G3.out⟩
      case rest =>
      obtain ⟨rfl, be9⟩ := hcut
      generalize wc = w17 at *
      have HK' : Hid (Kr w w4.heap.size w17 [(w.heap.size, (.cells #[.int .i64 n, s] 24 (0, 0))), (D1, (.cells #[(.slice (some ⟨gw, 0, none⟩) css.length cw), (.slice (some ⟨gw, 0, none⟩) (css.length + 64) cw), (.slice ar L.length cr)] 28 (0, 0))), (D2, (.cells #[.int .i64 n, (.slice (some ⟨gw, 0, none⟩) css.length cw)] 24 (0, 0))), (E1, (.cells #[.bool p0, .bool p1, .bool p2, .int .i64 p3, .int .i64 p4] 33 (0, 0))), (E2, (.cells #[.bool p0, .bool p1, .bool p2, .int .i64 p3, .int .i64 p4] 33 (0, 0))), (E3, (.cells #[.bool q0, .bool q1, .bool q2, .int .i64 q3, .int .i64 q4] 33 (0, 0))), (E4, (.cells #[.int .i64 n, .slice a4 css.length c4] 24 (0, 0)))] [(.slice ax P1.length cx, P1), (.slice ay P1.length cy, P1), (.slice ad P2.length cd, P2)]) := HK.out.below be9
      clear HSx HCx HCy HCa HW1 be9 HK
      go_wp2_with fail
      refine Calls.mono (HK'.out.apart3 (by have := HPl.out.1; show P1.length * 8 ≤ _; omega) (by have := HPl.out.1; show P1.length * 8 ≤ _; omega) (by have := HPl.out.2; show P2.length * 8 ≤ _; omega)) ?_
      rintro e w18 ⟨rfl, be9⟩
      have HB9 : Hid (Below w.heap.size w w18) := be9
      clear be9
      go_wp2
      go_ret
      exact ⟨rfl, HB9.out⟩
end Go.Proofs.YtgaojmcmpdjfmaaDoor.rupKeeps
