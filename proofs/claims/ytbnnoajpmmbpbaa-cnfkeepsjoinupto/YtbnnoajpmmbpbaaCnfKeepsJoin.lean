/-
  CnfKeepsJoin, walked.
  KEEP: set on app at below new trans refl start ap kept rd rds mono lt add none own nil put len pos setF setV putL putR other neV same_any row
-/
import Derived.Test.YtbnnoajpmmbpbaaJoinW
import Derived.Test.YtbnnoajpmmbpbaaSameF
import Derived.Test.YtbnnoajpmmbpbaaSmall
import Derived.Test.YtbnnoajpmmbpbaaKpJ
set_option linter.unusedSimpArgs false
set_option linter.unusedVariables false
namespace Go.Proofs.Ytbnnoajpmmbpbaa.cnfKeepsJoin
open Go Go.RowKit Go.Shelf

theorem jn21 {css dss : List (List Int)} (h : css.length + dss.length ≤ 2097152) (n m : Int) : (jnF n css m dss).2.1.length ≤ 2097152 := by
  unfold jnF; split
  · simpa using h
  · simp
theorem jn8 {css dss : List (List Int)} (h1 : ∀ z ∈ css, z.length * 8 ≤ 140737488351232) (h2 : ∀ z ∈ dss, z.length * 8 ≤ 140737488351232) (n m : Int) : ∀ z ∈ (jnF n css m dss).2.1, z.length * 8 ≤ 140737488351232 := by
  unfold jnF; split
  · intro z hz
    rcases List.mem_append.1 hz with h | h
    · exact h1 z h
    · exact h2 z h
  · simp
theorem jn_small : jnF 2 smallF 2 smallF = (2, (jnF 2 smallF 2 smallF).2.1, 0) := by decide
theorem ng8 {css : List (List Int)} (h : ∀ z ∈ css, z.length * 8 ≤ 140737488351232) : ∀ z ∈ css.map (·.map ngv), z.length * 8 ≤ 140737488351232 := fun z hz => by
  obtain ⟨y, hy, rfl⟩ := List.mem_map.1 hz
  rw [List.length_map]; exact h y hy
theorem ownf_mono {B B' : Nat} {W : World} {s : Value} {css : List (List Int)} (h : OwnF B W s css) (hB : B' ≤ B) : OwnF B' W s css := by
  obtain ⟨L, hL, e⟩ := h
  exact ⟨L, hL.mono hB, e⟩

/-- two formulas' boxes, in a world that has grown -/
structure Tw (w : World) (n : Int) (s : Value) (css : List (List Int)) (m : Int) (t : Value) (dss : List (List Int)) (wr : World) : Prop where
  bel : Below w.heap.size w wr
  f0 : wr.cell? ⟨w.heap.size, 0, none⟩ = some (.int .i64 n)
  f1 : wr.cell? ⟨w.heap.size, 1, none⟩ = some s
  g0 : wr.cell? ⟨w.heap.size + 1, 0, none⟩ = some (.int .i64 m)
  g1 : wr.cell? ⟨w.heap.size + 1, 1, none⟩ = some t
  rf : Rds wr s css
  rg : Rds wr t dss
theorem Tw.on {w : World} {n : Int} {s : Value} {css : List (List Int)} {m : Int} {t : Value} {dss : List (List Int)} {wr w' : World} (h : Tw w n s css m t dss wr) (hb : Below wr.heap.size wr w') : Tw w n s css m t dss w' :=
  ⟨h.bel.trans (hb.mono h.bel.size), (hb.cell (p := ⟨w.heap.size, 0, none⟩) (World.block_lt_of_cell? wr _ h.f0)).trans h.f0, (hb.cell (p := ⟨w.heap.size, 1, none⟩) (World.block_lt_of_cell? wr _ h.f1)).trans h.f1,
    (hb.cell (p := ⟨w.heap.size + 1, 0, none⟩) (World.block_lt_of_cell? wr _ h.g0)).trans h.g0, (hb.cell (p := ⟨w.heap.size + 1, 1, none⟩) (World.block_lt_of_cell? wr _ h.g1)).trans h.g1, h.rf.below hb, h.rg.below hb⟩
theorem Tw.new {w : World} {n : Int} {s : Value} {css : List (List Int)} {m : Int} {t : Value} {dss : List (List Int)} (hr : Rds w s css) (hg : Rds w t dss) : Tw w n s css m t dss ((w.alloc (.cells #[.int .i64 n, s] 24)).alloc (.cells #[.int .i64 m, t] 24)) := by
  have A0 := (Bx.new (n := n) hr 24).on (below_box _ (.cells #[.int .i64 m, t] 24))
  have A1 := Bx.new (n := m) (hg.below (below_box w (.cells #[.int .i64 n, s] 24))) 24
  have d0 := A1.c0
  have d1 := A1.c1
  rw [World.size_alloc] at d0 d1
  exact ⟨A0.bel, A0.c0, A0.c1, d0, d1, A0.rd, A1.rd⟩
/-- what a call of Join answers, on either side -/
def Says (P : Program) (f : FuncId) (s t : Value) (n m : Int) (W : World) (u1 : Int) (ucs : List (List Int)) (ue : Int) : Prop :=
  Calls P f #[.agg #[.int .i64 n, s], .agg #[.int .i64 m, t]] W fun e w' => ∃ a c, e = .returned (.tuple #[.agg #[.int .i64 u1, .slice a ucs.length c], .int .i64 ue]) ∧ OwnF W.heap.size w' (.slice a ucs.length c) ucs ∧ Below W.heap.size W w'
theorem says_r {n m : Int} {s t : Value} {css dss : List (List Int)} {W : World} {u1 ue : Int} {ucs : List (List Int)} (hu : jnF n css m dss = (u1, ucs, ue)) (hr : Rds W s css) (hg : Rds W t dss) (hs : css.length + dss.length ≤ 2097152) : Says Try.prog 8 s t n m W u1 ucs ue := by
  refine (rJoinF_any n s css m t dss W hr hg (by omega)).mono ?_
  rw [hu]
  rintro e w' ⟨s', rfl, ho, hb⟩
  obtain ⟨a, c, rfl⟩ := ownf_form ho
  exact ⟨a, c, rfl, ho, hb⟩
theorem says_p {n m : Int} {s t : Value} {css dss : List (List Int)} {W : World} {u1 ue : Int} {ucs : List (List Int)} (hu : jnF n css m dss = (u1, ucs, ue)) (hr : Rds W s css) (hg : Rds W t dss) (hs : css.length + dss.length ≤ 2097152) : Says Try.prog 5 s t n m W u1 ucs ue := by
  refine (cnfJoin_any n s css m t dss W hr hg (by omega)).mono ?_
  rw [hu]
  rintro e w' ⟨s', rfl, ho, hb⟩
  obtain ⟨a, c, rfl⟩ := ownf_form ho
  exact ⟨a, c, rfl, ho, hb⟩
def Turns (n : Int) (s : Value) (css : List (List Int)) (W : World) : Prop :=
  Calls Try.prog 9 #[.agg #[.int .i64 n, s]] W fun e w' => ∃ a c, e = .returned (.agg #[.int .i64 n, .slice a css.length c]) ∧ Rds w' (.slice a css.length c) (css.map (·.map ngv)) ∧ Below W.heap.size W w'
theorem turns {n : Int} {s : Value} {css : List (List Int)} {W : World} (hr : Rds W s css) (hc : css.length ≤ 1048576) (h8 : ∀ z ∈ css, z.length * 8 ≤ 140737488351232) : Turns n s css W := by
  refine (turned_any n s css W hr (by omega)).mono ?_
  rintro e w' ⟨s', rfl, ho, hb⟩
  obtain ⟨a, c, rfl⟩ := ownf_form ho
  have h := ho.rds (by rw [List.length_map]; omega) (ng8 h8)
  rw [List.length_map] at h
  exact ⟨a, c, by rw [List.length_map], h, hb⟩
theorem Blo.alloc {w W : World} (h : Below w.heap.size w W) (o : Obj) : Below w.heap.size w (W.alloc o) := h.alloc h.size o
/-- what LentRows answers, in plain words -/
def Lends (s : Value) (css : List (List Int)) (W : World) : Prop :=
  Calls Try.prog 7 #[s] W fun e w' => ∃ g c a r L M, e = .returned (.agg #[.slice (some ⟨g, 0, none⟩) css.length c, .slice (some ⟨g, 0, none⟩) (css.length + 64) c, .slice a (List.length (α := Cls) L) r]) ∧ Lq W w' (.slice (some ⟨g, 0, none⟩) css.length c) (.slice (some ⟨g, 0, none⟩) (css.length + 64) c) (.slice a (List.length (α := Cls) L) r) css L M
theorem lends {s : Value} {css : List (List Int)} {W : World} (hr : Rds W s css) (hb : css.length ≤ 1073741824) : Lends s css W := by
  refine (lentRows_any s css W hr hb).mono ?_
  rintro e w' ⟨vi, vw, vr, L, M, rfl, hq⟩
  obtain ⟨g, c, e1, e2, -, -⟩ := hq.vals
  subst e1; subst e2
  obtain ⟨a, r, er⟩ := row_form hq.l.r.row
  subst er
  exact ⟨g, c, a, r, L, M, rfl, hq⟩
theorem Bx3.new (w : World) (t : TypeId) (x y z : Value) : Bx3 (w.alloc (.cells #[x, y, z] t)) w.heap.size t x y z := World.alloc_heap_new w _
theorem Bx3.new1 (w : World) (t : TypeId) (x y z : Value) (o : Obj) : Bx3 ((w.alloc o).alloc (.cells #[x, y, z] t)) (w.heap.size + 1) t x y z := by
  have h := Bx3.new (w.alloc o) t x y z
  rw [World.size_alloc] at h
  exact h
theorem below_box2 (w : World) (o o' : Obj) : Below w.heap.size w ((w.alloc o).alloc o') := Blo.alloc (below_box w o) o'
theorem Two.mk2 {w0 W : World} {css dss : List (List Int)} {Dx Dy Bx By : Nat} {vix vwx vrx viy vwy vry : Value} {Lx Mx Ly My : List Cls} (h : Kj w0 W (some (Dx, vix, vwx, vrx)) (some (Dy, viy, vwy, vry)) [⟨By, viy, vwy, vry, dss, Ly, My⟩, ⟨Bx, vix, vwx, vrx, css, Lx, Mx⟩]) : Two w0 css dss (.pointer (some ⟨Dx, 0, none⟩)) (.pointer (some ⟨Dy, 0, none⟩)) W :=
  ⟨Dx, Dy, ⟨Bx, vix, vwx, vrx, css, Lx, Mx⟩, ⟨By, viy, vwy, vry, dss, Ly, My⟩, rfl, rfl, rfl, rfl, h⟩
section
variable {w0 W : World} {ox oy : Option Br4} {ls : List Lt} {o : Obj} {x y z : Value}
theorem Kj.fillX0 {D : Nat} (h : Kj w0 W (some (D, .slice none 0 0, .slice none 0 0, .slice none 0 0)) oy ls) : Kj w0 (((W.setCell ⟨D, 0, none⟩ x).setCell ⟨D, 1, none⟩ y).setCell ⟨D, 2, none⟩ z) (some (D, x, y, z)) oy ls := h.fillX x y z
theorem Kj.fillY0 {D : Nat} (h : Kj w0 W ox (some (D, .slice none 0 0, .slice none 0 0, .slice none 0 0)) ls) : Kj w0 (((W.setCell ⟨D, 0, none⟩ x).setCell ⟨D, 1, none⟩ y).setCell ⟨D, 2, none⟩ z) ox (some (D, x, y, z)) ls := h.fillY x y z
theorem Kj.boxX0 (h : Kj w0 W none oy ls) : Kj w0 (W.alloc (.cells #[x, y, z] 30)) (some (W.heap.size, x, y, z)) oy ls := h.boxX x y z
theorem Kj.boxY0 (h : Kj w0 W ox none ls) : Kj w0 (W.alloc (.cells #[x, y, z] 30)) ox (some (W.heap.size, x, y, z)) ls := h.boxY x y z
theorem Kj.boxX1 (h : Kj w0 (W.alloc o) none oy ls) : Kj w0 ((W.alloc o).alloc (.cells #[x, y, z] 30)) (some (W.heap.size + 1, x, y, z)) oy ls := by
  have := h.boxX x y z
  rw [World.size_alloc] at this
  exact this
theorem Kj.boxY1 (h : Kj w0 (W.alloc o) ox none ls) : Kj w0 ((W.alloc o).alloc (.cells #[x, y, z] 30)) ox (some (W.heap.size + 1, x, y, z)) ls := by
  have := h.boxY x y z
  rw [World.size_alloc] at this
  exact this
end

set_option maxRecDepth 100000 in
set_option maxHeartbeats 25600000 in
theorem walk (n : Int) (s : Value) (css : List (List Int)) (m : Int) (t : Value) (dss : List (List Int)) (w : World) (hr : Rds w s css) (hr2 : Rds w t dss) (hbn : css.length + dss.length ≤ 1048576) :
    Calls Try.prog 3 #[.agg #[.int .i64 n, s], .agg #[.int .i64 m, t]] w fun e w' => e = .returned (.bool true) ∧ Below w.heap.size w w' := by
  have H8 : Hid ((∀ z ∈ css, z.length * 8 ≤ 140737488351232) ∧ (∀ z ∈ dss, z.length * 8 ≤ 140737488351232) ∧ css.length + dss.length ≤ 1048576) := ⟨rds_each hr, rds_each hr2, hbn⟩
  have HX : Hid (Tw w n s css m t dss ((w.alloc (.cells #[.int .i64 n, s] 24)).alloc (.cells #[.int .i64 m, t] 24))) := Tw.new hr hr2
  obtain ⟨u1, ucs, ue, hU⟩ : ∃ q qs e, jnF n css m dss = (q, qs, e) := ⟨_, _, _, rfl⟩
  have HU : Hid (jnF n css m dss = (u1, ucs, ue) ∧ ucs.length ≤ 2097152 ∧ ∀ z ∈ ucs, z.length * 8 ≤ 140737488351232) := ⟨hU, by have := jn21 (css := css) (dss := dss) (by first | omega | (rw [List.length_map]; omega)) n m; rw [hU] at this; exact this, by have := jn8 (rds_each hr) (rds_each hr2) n m; rw [hU] at this; exact this⟩
  obtain ⟨t1, tcs, te, hT⟩ : ∃ q qs e, jnF n css n css = (q, qs, e) := ⟨_, _, _, rfl⟩
  have HT : Hid (jnF n css n css = (t1, tcs, te) ∧ tcs.length ≤ 2097152 ∧ ∀ z ∈ tcs, z.length * 8 ≤ 140737488351232) := ⟨hT, by have := jn21 (css := css) (dss := css) (by first | omega | (rw [List.length_map]; omega)) n n; rw [hT] at this; exact this, by have := jn8 (rds_each hr) (rds_each hr) n n; rw [hT] at this; exact this⟩
  obtain ⟨v1, vcs, ve, hV⟩ : ∃ q qs e, jnF n (css.map (·.map ngv)) m dss = (q, qs, e) := ⟨_, _, _, rfl⟩
  have HV : Hid (jnF n (css.map (·.map ngv)) m dss = (v1, vcs, ve) ∧ vcs.length ≤ 2097152 ∧ ∀ z ∈ vcs, z.length * 8 ≤ 140737488351232) := ⟨hV, by have := jn21 (css := (css.map (·.map ngv))) (dss := dss) (by first | omega | (rw [List.length_map]; omega)) n m; rw [hV] at this; exact this, by have := jn8 (ng8 (rds_each hr)) (rds_each hr2) n m; rw [hV] at this; exact this⟩
  clear hr hr2 hbn hU hT hV
  go_enter Try.func3, Try.ntmps3
  go_wp2_with fail
  generalize (w.alloc (.cells #[.int .i64 n, s] 24)).alloc (.cells #[.int .i64 m, t] 24) = W0 at *
  refine (small_any W0).mono ?_
  rintro e w0 ⟨s0, rfl, rs0, bel0⟩
  have HX0 : Hid (Tw w n s css m t dss w0) := HX.out.on bel0
  have HS0 : Hid (Rds w0 s0 smallF) := rs0
  clear HX bel0 rs0
  go_wp2_with fail
  refine (small_any w0).mono ?_
  rintro e w1 ⟨s1, rfl, rs1, bel1⟩
  have HX1 : Hid (Tw w n s css m t dss w1) := HX0.out.on bel1
  have HS1 : Hid (Rds w1 s1 smallF) := rs1
  have HS01 : Hid (Rds w1 s0 smallF) := HS0.out.below bel1
  clear HX0 bel1 rs1 HS0
  go_wp2_with fail
  refine (cnfJoin_any 2 s0 smallF 2 s1 smallF w1 HS01.out HS1.out (by decide)).mono ?_
  rw [jn_small]
  rintro e w2 ⟨s2, rfl, own2, bel2⟩
  obtain ⟨a2, c2, hs2⟩ := ownf_form own2
  subst hs2
  have HX2 : Hid (Tw w n s css m t dss w2) := HX1.out.on bel2
  clear HX1 bel2 HS1 HS01 own2
  generalize (jnF 2 smallF 2 smallF).2.1.length = q2 at *
  have HX3 : Hid (Tw w n s css m t dss (w2.alloc (.cells #[.int .i64 2, .slice a2 q2 c2] 24))) := HX2.out.on (below_box _ _)
  clear HX2
  go_upto_region 4 with fail
  generalize w2.alloc (.cells #[.int .i64 2, .slice a2 q2 c2] 24) = w3 at *
  have HSx : Hid (∀ W', Below w3.heap.size w3 W' → Below w3.heap.size w3 W' ∧ W'.cell? ⟨w.heap.size, 1, none⟩ = some s ∧ W'.cell? ⟨w.heap.size + 1, 1, none⟩ = some t) := fun W' h => ⟨h, (HX3.out.on h).f1, (HX3.out.on h).g1⟩
  have HDx : Hid (∀ W, Below w3.heap.size w3 W → Lends s css W) := fun W h => lends (HX3.out.on h).rf (by have := H8.out.2.2; omega)
  have HDy : Hid (∀ W, Below w3.heap.size w3 W → Lends t dss W) := fun W h => lends (HX3.out.on h).rg (by have := H8.out.2.2; omega)
  --D1
  go_cut [7, 8] from 35 to 40 (fun p q wx => Two w3 css dss p q wx)
  case first =>
    go_region_held (fun W' => Below w3.heap.size w3 W' ∧ W'.cell? ⟨w.heap.size, 1, none⟩ = some s ∧ W'.cell? ⟨w.heap.size + 1, 1, none⟩ = some t) (first | (refine HSx.out _ ?_; repeat (first | with_reducible exact BY.out | with_reducible exact BX.out | with_reducible exact Below.refl _ _ | with_reducible refine Blo.alloc ?_ _ | with_reducible refine below_set ?_ (by first | omega | (have h1 := BX.out.size; first | omega | (have h2 := BY.out.size; omega))) _ _ | with_reducible refine Below.drew ?_))) (first
      | (go_at_call 7; have bx0 := BX.out; refine Calls.mono (HDy.out _ (by repeat (first | with_reducible exact BY.out | with_reducible exact BX.out | with_reducible exact Below.refl _ _ | with_reducible refine Blo.alloc ?_ _ | with_reducible refine below_set ?_ (by first | omega | (have h1 := BX.out.size; first | omega | (have h2 := BY.out.size; omega))) _ _ | with_reducible refine Below.drew ?_))) ?_; rintro e wy ⟨gy, cy, ary, cry, Ly, My, rfl, hqy⟩; have BY : Hid (Below w3.heap.size w3 wy) := (by refine Below.step ?_ hqy.b; repeat (first | with_reducible exact BY.out | with_reducible exact BX.out | with_reducible exact Below.refl _ _ | with_reducible refine Blo.alloc ?_ _ | with_reducible refine below_set ?_ (by first | omega | (have h1 := BX.out.size; first | omega | (have h2 := BY.out.size; omega))) _ _ | with_reducible refine Below.drew ?_)); have HQy := (show Hid _ from hqy); have hqb := hqy.b
         first
           | (have C0 : Below wx.heap.size wx wy := (by with_reducible exact Below.step (below_box2 wx (.cells #[.slice none 0 0, .slice none 0 0, .slice none 0 0] 30) (.cells #[.slice none 0 0, .slice none 0 0, .slice none 0 0] 30)) hqb); have N1 : Hid (Bx3 wy wx.heap.size 30 (.slice none 0 0) (.slice none 0 0) (.slice none 0 0)) := Bx3.below (Bx3.below (Bx3.new wx _ _ _ _) (below_box _ (.cells #[.slice none 0 0, .slice none 0 0, .slice none 0 0] 30))) hqb; have N2 : Hid (Bx3 wy (wx.heap.size + 1) 30 (.slice none 0 0) (.slice none 0 0) (.slice none 0 0)) := Bx3.below (Bx3.new1 wx _ _ _ _ _) hqb; have n0 := N1.out.c0; have n1 := N1.out.c1; have n2 := N1.out.c2; have n3 := N1.out.fz 0; have n4 := N1.out.fz 1; have n5 := N1.out.fz 2; have k0 := N2.out.c0; have k1 := N2.out.c1; have k2 := N2.out.c2; have k3 := N2.out.fz 0; have k4 := N2.out.fz 1; have k5 := N2.out.fz 2; clear C0)
           | (have C0 : Below wx.heap.size wx wy := (by with_reducible exact Below.step (below_box wx (.cells #[.slice none 0 0, .slice none 0 0, .slice none 0 0] 30)) hqb); have N1 : Hid (Bx3 wy wx.heap.size 30 (.slice none 0 0) (.slice none 0 0) (.slice none 0 0)) := Bx3.below (Bx3.new wx _ _ _ _) hqb; have n0 := N1.out.c0; have n1 := N1.out.c1; have n2 := N1.out.c2; have n3 := N1.out.fz 0; have n4 := N1.out.fz 1; have n5 := N1.out.fz 2; skip
              first | (have P1 : Hid (Bx3 wy w3.heap.size 30 (.slice none 0 0) (.slice none 0 0) (.slice none 0 0)) := Bx3.below A1.out C0; have ne0 : w3.heap.size ≠ wx.heap.size := (by have h := A1.out.lt; omega); have ne1 : wx.heap.size ≠ w3.heap.size := (by have h := A1.out.lt; omega); have p0 := P1.out.c0; have p1 := P1.out.c1; have p2 := P1.out.c2; have p3 := P1.out.fz 0; have p4 := P1.out.fz 1; have p5 := P1.out.fz 2; clear C0) | ( have ne0 : wx.heap.size ≠ wy.heap.size := (by have h := N1.out.lt; omega); have ne1 : wy.heap.size ≠ wx.heap.size := (by have h := N1.out.lt; omega); have n0 := (Bx3.below N1.out (below_box wy (.cells #[.slice none 0 0, .slice none 0 0, .slice none 0 0] 30))).c0; have n1 := (Bx3.below N1.out (below_box wy (.cells #[.slice none 0 0, .slice none 0 0, .slice none 0 0] 30))).c1; have n2 := (Bx3.below N1.out (below_box wy (.cells #[.slice none 0 0, .slice none 0 0, .slice none 0 0] 30))).c2; have n3 := (Bx3.below N1.out (below_box wy (.cells #[.slice none 0 0, .slice none 0 0, .slice none 0 0] 30))).fz 0; have n4 := (Bx3.below N1.out (below_box wy (.cells #[.slice none 0 0, .slice none 0 0, .slice none 0 0] 30))).fz 1; have n5 := (Bx3.below N1.out (below_box wy (.cells #[.slice none 0 0, .slice none 0 0, .slice none 0 0] 30))).fz 2; have R1 : Hid (Bx3 (wy.alloc (.cells #[.slice none 0 0, .slice none 0 0, .slice none 0 0] 30)) wy.heap.size 30 (.slice none 0 0) (.slice none 0 0) (.slice none 0 0)) := Bx3.new wy _ _ _ _; have r0 := R1.out.c0; have r1 := R1.out.c1; have r2 := R1.out.c2; have r3 := R1.out.fz 0; have r4 := R1.out.fz 1; have r5 := R1.out.fz 2; have v0 := (Bx3.below N1.out (below_box wy (.cells #[.slice (some ⟨gx, 0, none⟩) css.length cx, .slice (some ⟨gx, 0, none⟩) (css.length + 64) cx, .slice arx Lx.length crx] 30))).c0; have v1 := (Bx3.below N1.out (below_box wy (.cells #[.slice (some ⟨gx, 0, none⟩) css.length cx, .slice (some ⟨gx, 0, none⟩) (css.length + 64) cx, .slice arx Lx.length crx] 30))).c1; have v2 := (Bx3.below N1.out (below_box wy (.cells #[.slice (some ⟨gx, 0, none⟩) css.length cx, .slice (some ⟨gx, 0, none⟩) (css.length + 64) cx, .slice arx Lx.length crx] 30))).c2; have v3 := (Bx3.below N1.out (below_box wy (.cells #[.slice (some ⟨gx, 0, none⟩) css.length cx, .slice (some ⟨gx, 0, none⟩) (css.length + 64) cx, .slice arx Lx.length crx] 30))).fz 0; have v4 := (Bx3.below N1.out (below_box wy (.cells #[.slice (some ⟨gx, 0, none⟩) css.length cx, .slice (some ⟨gx, 0, none⟩) (css.length + 64) cx, .slice arx Lx.length crx] 30))).fz 1; have v5 := (Bx3.below N1.out (below_box wy (.cells #[.slice (some ⟨gx, 0, none⟩) css.length cx, .slice (some ⟨gx, 0, none⟩) (css.length + 64) cx, .slice arx Lx.length crx] 30))).fz 2; clear C0))
           | (have C0 : Below wx.heap.size wx wy := (by with_reducible exact hqb)
              first | (have P1 : Hid (Bx3 wy w3.heap.size 30 (.slice none 0 0) (.slice none 0 0) (.slice none 0 0)) := Bx3.below A1.out C0; first | (have P2 : Hid (Bx3 wy (w3.heap.size + 1) 30 (.slice none 0 0) (.slice none 0 0) (.slice none 0 0)) := Bx3.below A2.out C0; have p0 := P1.out.c0; have p1 := P1.out.c1; have p2 := P1.out.c2; have p3 := P1.out.fz 0; have p4 := P1.out.fz 1; have p5 := P1.out.fz 2; have q0 := P2.out.c0; have q1 := P2.out.c1; have q2 := P2.out.c2; have q3 := P2.out.fz 0; have q4 := P2.out.fz 1; have q5 := P2.out.fz 2; clear C0) | ( have ne0 : w3.heap.size ≠ wy.heap.size := (by have h := P1.out.lt; omega); have ne1 : wy.heap.size ≠ w3.heap.size := (by have h := P1.out.lt; omega); have p0 := (Bx3.below P1.out (below_box wy (.cells #[.slice none 0 0, .slice none 0 0, .slice none 0 0] 30))).c0; have p1 := (Bx3.below P1.out (below_box wy (.cells #[.slice none 0 0, .slice none 0 0, .slice none 0 0] 30))).c1; have p2 := (Bx3.below P1.out (below_box wy (.cells #[.slice none 0 0, .slice none 0 0, .slice none 0 0] 30))).c2; have p3 := (Bx3.below P1.out (below_box wy (.cells #[.slice none 0 0, .slice none 0 0, .slice none 0 0] 30))).fz 0; have p4 := (Bx3.below P1.out (below_box wy (.cells #[.slice none 0 0, .slice none 0 0, .slice none 0 0] 30))).fz 1; have p5 := (Bx3.below P1.out (below_box wy (.cells #[.slice none 0 0, .slice none 0 0, .slice none 0 0] 30))).fz 2; have R1 : Hid (Bx3 (wy.alloc (.cells #[.slice none 0 0, .slice none 0 0, .slice none 0 0] 30)) wy.heap.size 30 (.slice none 0 0) (.slice none 0 0) (.slice none 0 0)) := Bx3.new wy _ _ _ _; have r0 := R1.out.c0; have r1 := R1.out.c1; have r2 := R1.out.c2; have r3 := R1.out.fz 0; have r4 := R1.out.fz 1; have r5 := R1.out.fz 2; have v0 := (Bx3.below P1.out (below_box wy (.cells #[.slice (some ⟨gx, 0, none⟩) css.length cx, .slice (some ⟨gx, 0, none⟩) (css.length + 64) cx, .slice arx Lx.length crx] 30))).c0; have v1 := (Bx3.below P1.out (below_box wy (.cells #[.slice (some ⟨gx, 0, none⟩) css.length cx, .slice (some ⟨gx, 0, none⟩) (css.length + 64) cx, .slice arx Lx.length crx] 30))).c1; have v2 := (Bx3.below P1.out (below_box wy (.cells #[.slice (some ⟨gx, 0, none⟩) css.length cx, .slice (some ⟨gx, 0, none⟩) (css.length + 64) cx, .slice arx Lx.length crx] 30))).c2; have v3 := (Bx3.below P1.out (below_box wy (.cells #[.slice (some ⟨gx, 0, none⟩) css.length cx, .slice (some ⟨gx, 0, none⟩) (css.length + 64) cx, .slice arx Lx.length crx] 30))).fz 0; have v4 := (Bx3.below P1.out (below_box wy (.cells #[.slice (some ⟨gx, 0, none⟩) css.length cx, .slice (some ⟨gx, 0, none⟩) (css.length + 64) cx, .slice arx Lx.length crx] 30))).fz 1; have v5 := (Bx3.below P1.out (below_box wy (.cells #[.slice (some ⟨gx, 0, none⟩) css.length cx, .slice (some ⟨gx, 0, none⟩) (css.length + 64) cx, .slice arx Lx.length crx] 30))).fz 2; clear C0)) | (have T1 : Hid (Bx3 ((wy.alloc (.cells #[.slice none 0 0, .slice none 0 0, .slice none 0 0] 30)).alloc (.cells #[.slice none 0 0, .slice none 0 0, .slice none 0 0] 30)) wy.heap.size 30 (.slice none 0 0) (.slice none 0 0) (.slice none 0 0)) := Bx3.below (Bx3.new wy _ _ _ _) (below_box _ (.cells #[.slice none 0 0, .slice none 0 0, .slice none 0 0] 30)); have t0 := T1.out.c0; have t1 := T1.out.c1; have t2 := T1.out.c2; have t3 := T1.out.fz 0; have t4 := T1.out.fz 1; have t5 := T1.out.fz 2; have T2 : Hid (Bx3 ((wy.alloc (.cells #[.slice none 0 0, .slice none 0 0, .slice none 0 0] 30)).alloc (.cells #[.slice none 0 0, .slice none 0 0, .slice none 0 0] 30)) (wy.heap.size + 1) 30 (.slice none 0 0) (.slice none 0 0) (.slice none 0 0)) := Bx3.new1 wy _ _ _ _ _; have u0 := T2.out.c0; have u1 := T2.out.c1; have u2 := T2.out.c2; have u3 := T2.out.fz 0; have u4 := T2.out.fz 1; have u5 := T2.out.fz 2; have v0 := (Bx3.below (Bx3.new wy 30 (.slice none 0 0) (.slice none 0 0) (.slice none 0 0)) (below_box _ (.cells #[.slice (some ⟨gx, 0, none⟩) css.length cx, .slice (some ⟨gx, 0, none⟩) (css.length + 64) cx, .slice arx Lx.length crx] 30))).c0; have v1 := (Bx3.below (Bx3.new wy 30 (.slice none 0 0) (.slice none 0 0) (.slice none 0 0)) (below_box _ (.cells #[.slice (some ⟨gx, 0, none⟩) css.length cx, .slice (some ⟨gx, 0, none⟩) (css.length + 64) cx, .slice arx Lx.length crx] 30))).c1; have v2 := (Bx3.below (Bx3.new wy 30 (.slice none 0 0) (.slice none 0 0) (.slice none 0 0)) (below_box _ (.cells #[.slice (some ⟨gx, 0, none⟩) css.length cx, .slice (some ⟨gx, 0, none⟩) (css.length + 64) cx, .slice arx Lx.length crx] 30))).c2; have v3 := (Bx3.below (Bx3.new wy 30 (.slice none 0 0) (.slice none 0 0) (.slice none 0 0)) (below_box _ (.cells #[.slice (some ⟨gx, 0, none⟩) css.length cx, .slice (some ⟨gx, 0, none⟩) (css.length + 64) cx, .slice arx Lx.length crx] 30))).fz 0; have v4 := (Bx3.below (Bx3.new wy 30 (.slice none 0 0) (.slice none 0 0) (.slice none 0 0)) (below_box _ (.cells #[.slice (some ⟨gx, 0, none⟩) css.length cx, .slice (some ⟨gx, 0, none⟩) (css.length + 64) cx, .slice arx Lx.length crx] 30))).fz 1; have v5 := (Bx3.below (Bx3.new wy 30 (.slice none 0 0) (.slice none 0 0) (.slice none 0 0)) (below_box _ (.cells #[.slice (some ⟨gx, 0, none⟩) css.length cx, .slice (some ⟨gx, 0, none⟩) (css.length + 64) cx, .slice arx Lx.length crx] 30))).fz 2; clear C0))
         clear hqy bx0 hqb)
      | (go_at_call 7; refine Calls.mono (HDx.out _ (by repeat (first | with_reducible exact BY.out | with_reducible exact BX.out | with_reducible exact Below.refl _ _ | with_reducible refine Blo.alloc ?_ _ | with_reducible refine below_set ?_ (by first | omega | (have h1 := BX.out.size; first | omega | (have h2 := BY.out.size; omega))) _ _ | with_reducible refine Below.drew ?_))) ?_; rintro e wx ⟨gx, cx, arx, crx, Lx, Mx, rfl, hqx⟩; have BX : Hid (Below w3.heap.size w3 wx) := (by refine Below.step ?_ hqx.b; repeat (first | with_reducible exact BY.out | with_reducible exact BX.out | with_reducible exact Below.refl _ _ | with_reducible refine Blo.alloc ?_ _ | with_reducible refine below_set ?_ (by first | omega | (have h1 := BX.out.size; first | omega | (have h2 := BY.out.size; omega))) _ _ | with_reducible refine Below.drew ?_)); have HQx := (show Hid _ from hqx); have hqb := hqx.b
         first
           | (have C0 : Below (((w3.alloc (.cells #[.slice none 0 0, .slice none 0 0, .slice none 0 0] 30)).alloc (.cells #[.slice none 0 0, .slice none 0 0, .slice none 0 0] 30))).heap.size ((w3.alloc (.cells #[.slice none 0 0, .slice none 0 0, .slice none 0 0] 30)).alloc (.cells #[.slice none 0 0, .slice none 0 0, .slice none 0 0] 30)) wx := (by with_reducible exact Below.step (Below.refl _ _).drew hqb); have A1 : Hid (Bx3 wx w3.heap.size 30 (.slice none 0 0) (.slice none 0 0) (.slice none 0 0)) := Bx3.below (Bx3.below (Bx3.new w3 _ _ _ _) (below_box _ (.cells #[.slice none 0 0, .slice none 0 0, .slice none 0 0] 30))) C0; have A2 : Hid (Bx3 wx (w3.heap.size + 1) 30 (.slice none 0 0) (.slice none 0 0) (.slice none 0 0)) := Bx3.below (Bx3.new1 w3 _ _ _ _ _) C0; clear C0)
           | (have C0 : Below (w3.alloc (.cells #[.slice none 0 0, .slice none 0 0, .slice none 0 0] 30)).heap.size (w3.alloc (.cells #[.slice none 0 0, .slice none 0 0, .slice none 0 0] 30)) wx := (by with_reducible exact Below.step (Below.refl _ _).drew hqb); have A1 : Hid (Bx3 wx w3.heap.size 30 (.slice none 0 0) (.slice none 0 0) (.slice none 0 0)) := Bx3.below (Bx3.new w3 _ _ _ _) C0; clear C0)
           | skip
         clear hqx hqb))
    all_goals
      go_wp2_with fail
      go_meet
      apply Two.mk2
      repeat (first | with_reducible refine Kj.fillX0 ?_ | with_reducible refine Kj.fillY0 ?_ | with_reducible refine Kj.boxX0 ?_ | with_reducible refine Kj.boxY0 ?_ | with_reducible refine Kj.boxX1 ?_ | with_reducible refine Kj.boxY1 ?_ | with_reducible refine Kj.drew ?_)
      refine Kj.lent ?_ HQy.out
      repeat (first | with_reducible refine Kj.fillX0 ?_ | with_reducible refine Kj.fillY0 ?_ | with_reducible refine Kj.boxX0 ?_ | with_reducible refine Kj.boxY0 ?_ | with_reducible refine Kj.boxX1 ?_ | with_reducible refine Kj.boxY1 ?_ | with_reducible refine Kj.drew ?_)
      refine Kj.lent ?_ HQx.out
      repeat (first | with_reducible refine Kj.fillX0 ?_ | with_reducible refine Kj.fillY0 ?_ | with_reducible refine Kj.boxX0 ?_ | with_reducible refine Kj.boxY0 ?_ | with_reducible refine Kj.boxX1 ?_ | with_reducible refine Kj.boxY1 ?_ | with_reducible refine Kj.drew ?_)
      exact Kj.start _
  case rest =>
  obtain ⟨Dx, Dy, Bx, gx, cx, arx, crx, Lx, Mx, By, gy, cy, ary, cry, Ly, My, rfl, rfl, hcx, hcy, hkj⟩ := hcut.open
  generalize wc = wA at *
  have HCx : Hid (css.length + 64 ≤ cx ∧ cx ≤ maxLen) := hcx
  have HCy : Hid (dss.length + 64 ≤ cy ∧ cy ≤ maxLen) := hcy
  clear hcx hcy hcut
  have HA : Hid (Kj w3 wA (some (Dx, (.slice (some ⟨gx, 0, none⟩) css.length cx), (.slice (some ⟨gx, 0, none⟩) (css.length + 64) cx), (.slice arx Lx.length crx))) (some (Dy, (.slice (some ⟨gy, 0, none⟩) dss.length cy), (.slice (some ⟨gy, 0, none⟩) (dss.length + 64) cy), (.slice ary Ly.length cry))) [⟨By, (.slice (some ⟨gy, 0, none⟩) dss.length cy), (.slice (some ⟨gy, 0, none⟩) (dss.length + 64) cy), (.slice ary Ly.length cry), dss, Ly, My⟩, ⟨Bx, (.slice (some ⟨gx, 0, none⟩) css.length cx), (.slice (some ⟨gx, 0, none⟩) (css.length + 64) cx), (.slice arx Lx.length crx), css, Lx, Mx⟩]) := hkj
  have HLx : Hid (∀ W, Below wA.heap.size wA W → Lk Bx W (.slice (some ⟨gx, 0, none⟩) (css.length + 64) cx) (.slice arx Lx.length crx) css Lx Mx) := fun W h => ((HA.out.below h).lk ⟨Bx, (.slice (some ⟨gx, 0, none⟩) css.length cx), (.slice (some ⟨gx, 0, none⟩) (css.length + 64) cx), (.slice arx Lx.length crx), css, Lx, Mx⟩ (by simp)).1
  have HLy : Hid (∀ W, Below wA.heap.size wA W → Lk By W (.slice (some ⟨gy, 0, none⟩) (dss.length + 64) cy) (.slice ary Ly.length cry) dss Ly My) := fun W h => ((HA.out.below h).lk ⟨By, (.slice (some ⟨gy, 0, none⟩) dss.length cy), (.slice (some ⟨gy, 0, none⟩) (dss.length + 64) cy), (.slice ary Ly.length cry), dss, Ly, My⟩ (by simp)).1
  have HBx : Hid (∀ W, Below wA.heap.size wA W → Bx3 W Dx 30 (.slice (some ⟨gx, 0, none⟩) css.length cx) (.slice (some ⟨gx, 0, none⟩) (css.length + 64) cx) (.slice arx Lx.length crx)) := fun W h => ((HA.out.below h).x _ rfl).1
  have HBy : Hid (∀ W, Below wA.heap.size wA W → Bx3 W Dy 30 (.slice (some ⟨gy, 0, none⟩) dss.length cy) (.slice (some ⟨gy, 0, none⟩) (dss.length + 64) cy) (.slice ary Ly.length cry)) := fun W h => ((HA.out.below h).y _ rfl).1
  have HOx : Hid (∀ k, Lown (.slice (some ⟨gx, 0, none⟩) (css.length + 64) cx) (.slice arx Lx.length crx) Lx k → w3.heap.size ≤ k ∧ k < wA.heap.size) := HA.out.lo (l := ⟨Bx, (.slice (some ⟨gx, 0, none⟩) css.length cx), (.slice (some ⟨gx, 0, none⟩) (css.length + 64) cx), (.slice arx Lx.length crx), css, Lx, Mx⟩) (by simp)
  have HOy : Hid (∀ k, Lown (.slice (some ⟨gy, 0, none⟩) (dss.length + 64) cy) (.slice ary Ly.length cry) Ly k → w3.heap.size ≤ k ∧ k < wA.heap.size) := HA.out.lo (l := ⟨By, (.slice (some ⟨gy, 0, none⟩) dss.length cy), (.slice (some ⟨gy, 0, none⟩) (dss.length + 64) cy), (.slice ary Ly.length cry), dss, Ly, My⟩) (by simp)
  have HLn : Hid (Lx.length = css.length ∧ Ly.length = dss.length ∧ Mx.length = 64 ∧ My.length = 64) := ⟨(HLx.out wA (Below.refl _ _)).len.1, (HLy.out wA (Below.refl _ _)).len.1, (HLx.out wA (Below.refl _ _)).len.2, (HLy.out wA (Below.refl _ _)).len.2⟩
  have HK0 : Hid (Kx w3 wA.heap.size wA wA [] []) := Kx.start HA.out.bel HA.out.bel.size (Nat.le_refl _)
  have HRd : Hid (∀ W, Below wA.heap.size wA W → Rds W (.slice (some ⟨gx, 0, none⟩) css.length cx) css ∧ Rds W (.slice (some ⟨gy, 0, none⟩) dss.length cy) dss) := fun W h => ⟨(HLx.out W h).tn.rds (by have := HCx.out.1; omega) HCx.out.2 (by simp) (by have := H8.out.2.2; omega) H8.out.1, (HLy.out W h).tn.rds (by have := HCy.out.1; omega) HCy.out.2 (by simp) (by have := H8.out.2.2; omega) H8.out.2.1⟩
  clear hkj
  have HSx : Hid (∀ W', Below wA.heap.size wA W' → Below wA.heap.size wA W' ∧ W'.cell? ⟨w.heap.size, 0, none⟩ = some (.int .i64 n) ∧ W'.cell? ⟨w.heap.size + 1, 0, none⟩ = some (.int .i64 m) ∧ W'.cell? ⟨Dx, 0, none⟩ = some (.slice (some ⟨gx, 0, none⟩) css.length cx) ∧ W'.cell? ⟨Dy, 0, none⟩ = some (.slice (some ⟨gy, 0, none⟩) dss.length cy)) := fun W' h => by
    have hx := HX3.out.on (Below.step HA.out.bel h)
    exact ⟨h, hx.f0, hx.g0, (HBx.out W' h).c0, (HBy.out W' h).c0⟩
  go_upto_region 5 with fail
  --D2
  go_cut [9, 10] from 41 to 50 (fun p q wx => Duo w3 wA.heap.size wA (.int .i64 n) (.slice (some ⟨gx, 0, none⟩) css.length cx) (.int .i64 m) (.slice (some ⟨gy, 0, none⟩) dss.length cy) p q wx)
  case first =>
    go_region_held (fun W' => Below wA.heap.size wA W' ∧ W'.cell? ⟨w.heap.size, 0, none⟩ = some (.int .i64 n) ∧ W'.cell? ⟨w.heap.size + 1, 0, none⟩ = some (.int .i64 m) ∧ W'.cell? ⟨Dx, 0, none⟩ = some (.slice (some ⟨gx, 0, none⟩) css.length cx) ∧ W'.cell? ⟨Dy, 0, none⟩ = some (.slice (some ⟨gy, 0, none⟩) dss.length cy)) (first | (refine HSx.out _ ?_; repeat (first | exact Below.refl _ _ | exact (Below.refl _ _).drew | refine Below.drew ?_ | refine Blo.alloc ?_ _ | refine below_set ?_ (by first | exact Nat.le_refl _ | omega | (simp; omega)) _ _))) (fail)
    all_goals
      go_wp2_with fail
      go_meet
      refine ⟨_, _, rfl, rfl, Ky.out ?_⟩
      first
        | (have h := ((Ky.start HK0.out).boxX (.int .i64 n) (.slice (some ⟨gx, 0, none⟩) css.length cx)).boxY (.int .i64 m) (.slice (some ⟨gy, 0, none⟩) dss.length cy); rw [World.size_alloc] at h; exact h.drew)
        | (have h := ((Ky.start HK0.out).boxY (.int .i64 m) (.slice (some ⟨gy, 0, none⟩) dss.length cy)).boxX (.int .i64 n) (.slice (some ⟨gx, 0, none⟩) css.length cx); rw [World.size_alloc] at h; exact h.drew)
  case rest =>
  obtain ⟨Di, Db, rfl, rfl, hk5⟩ := hcut
  generalize wc = w5 at *
  --D3
  have HK1 : Hid (Kx w3 wA.heap.size wA w5 [(Di, .int .i64 n, (.slice (some ⟨gx, 0, none⟩) css.length cx)), (Db, .int .i64 m, (.slice (some ⟨gy, 0, none⟩) dss.length cy))] []) := hk5
  clear hk5 HSx HK0
  have d0 := (HX3.out.on HK1.out.bel).f0
  have d1 := (HX3.out.on HK1.out.bel).f1
  have d2 := (HX3.out.on HK1.out.bel).g0
  have d3 := (HX3.out.on HK1.out.bel).g1
  go_wp2_with fail
  refine Calls.mono (says_r HU.out.1 (HX3.out.on HK1.out.bel).rf (HX3.out.on HK1.out.bel).rg (by have := H8.out.2.2; omega)) ?_
  rintro e w6 ⟨a6, c6, rfl, own6, bel6⟩
  obtain ⟨L6, e6, k6⟩ := HK1.out.ans bel6 own6 u1
  have HE6 : Hid (L6.map Prod.snd = ucs) := e6
  have HK2 : Hid (Kx w3 wA.heap.size wA (w6.alloc (.cells #[.int .i64 u1, .slice a6 ucs.length c6] 24)) [(Di, .int .i64 n, (.slice (some ⟨gx, 0, none⟩) css.length cx)), (Db, .int .i64 m, (.slice (some ⟨gy, 0, none⟩) dss.length cy)), (w6.heap.size, .int .i64 u1, .slice a6 ucs.length c6)] [(u1, .slice a6 ucs.length c6, L6)]) := k6
  clear own6 bel6 k6 e6 HK1 d0 d1 d2 d3
  have d0 := (HX3.out.on HK2.out.bel).f0
  have d1 := (HX3.out.on HK2.out.bel).f1
  have d2 := (HX3.out.on HK2.out.bel).g0
  have d3 := (HX3.out.on HK2.out.bel).g1
  go_wp2_with fail
  generalize (w6.alloc (.cells #[.int .i64 u1, .slice a6 ucs.length c6] 24)) = w6b at *
  refine Calls.mono (says_r HT.out.1 (HX3.out.on HK2.out.bel).rf (HX3.out.on HK2.out.bel).rf (by have := H8.out.2.2; omega)) ?_
  rintro e w7 ⟨a7, c7, rfl, own7, bel7⟩
  obtain ⟨L7, e7, k7⟩ := HK2.out.ans bel7 own7 t1
  have HE7 : Hid (L7.map Prod.snd = tcs) := e7
  have HK3 : Hid (Kx w3 wA.heap.size wA (w7.alloc (.cells #[.int .i64 t1, .slice a7 tcs.length c7] 24)) [(Di, .int .i64 n, (.slice (some ⟨gx, 0, none⟩) css.length cx)), (Db, .int .i64 m, (.slice (some ⟨gy, 0, none⟩) dss.length cy)), (w6.heap.size, .int .i64 u1, .slice a6 ucs.length c6), (w7.heap.size, .int .i64 t1, .slice a7 tcs.length c7)] [(u1, .slice a6 ucs.length c6, L6), (t1, .slice a7 tcs.length c7, L7)]) := k7
  clear own7 bel7 k7 e7 HK2 d0 d1 d2 d3
  go_upto_region 8 with fail
  generalize (w7.alloc (.cells #[.int .i64 t1, .slice a7 tcs.length c7] 24)) = w7b at *
  have HSx : Hid (∀ W', Below w7b.heap.size w7b W' → Below w7b.heap.size w7b W' ∧ W'.cell? ⟨w.heap.size, 0, none⟩ = some (.int .i64 n) ∧ W'.cell? ⟨w.heap.size, 1, none⟩ = some s ∧ W'.cell? ⟨w.heap.size + 1, 0, none⟩ = some (.int .i64 m) ∧ W'.cell? ⟨w.heap.size + 1, 1, none⟩ = some t) := fun W' h => by
    have hx := HX3.out.on (HK3.out.below h).bel
    exact ⟨h, hx.f0, hx.f1, hx.g0, hx.g1⟩
  have HCt : Hid (∀ W, Below w7b.heap.size w7b W → Turns n s css W) := fun W h => turns (HX3.out.on (HK3.out.below h).bel).rf (by have := H8.out.2.2; omega) H8.out.1
  have HCj : Hid (∀ W sx, Below w7b.heap.size w7b W → Rds W sx (css.map (·.map ngv)) → Says Try.prog 8 sx t n m W v1 vcs ve) := fun W sx h hs => says_r HV.out.1 hs (HX3.out.on (HK3.out.below h).bel).rg (by have := H8.out.2.2; rw [List.length_map]; omega)
  have HW1 : Hid (Below w7b.heap.size w7b w7b.drew) := (Below.refl _ _).drew
  have HW2 : Hid (Below w7b.heap.size w7b (w7b.alloc (.cells #[.int .i64 0, .slice none 0 0] 24)).drew) := (below_box _ _).drew
  have HS3 : Hid (Kx w3 wA.heap.size wA w7b [(Di, .int .i64 n, (.slice (some ⟨gx, 0, none⟩) css.length cx)), (Db, .int .i64 m, (.slice (some ⟨gy, 0, none⟩) dss.length cy)), (w6.heap.size, .int .i64 u1, .slice a6 ucs.length c6), (w7.heap.size, .int .i64 t1, .slice a7 tcs.length c7)] [(u1, .slice a6 ucs.length c6, L6), (t1, .slice a7 tcs.length c7, L7)]) := HK3.out
  --D4
  go_cut [15, 16] from 63 to 69 (fun p e wx => An w3 wA.heap.size wA [(Di, .int .i64 n, (.slice (some ⟨gx, 0, none⟩) css.length cx)), (Db, .int .i64 m, (.slice (some ⟨gy, 0, none⟩) dss.length cy)), (w6.heap.size, .int .i64 u1, .slice a6 ucs.length c6), (w7.heap.size, .int .i64 t1, .slice a7 tcs.length c7)] [(u1, .slice a6 ucs.length c6, L6), (t1, .slice a7 tcs.length c7, L7)] v1 vcs p wx)
  case first =>
    go_region_held (fun W' => Below w7b.heap.size w7b W' ∧ W'.cell? ⟨w.heap.size, 0, none⟩ = some (.int .i64 n) ∧ W'.cell? ⟨w.heap.size, 1, none⟩ = some s ∧ W'.cell? ⟨w.heap.size + 1, 0, none⟩ = some (.int .i64 m) ∧ W'.cell? ⟨w.heap.size + 1, 1, none⟩ = some t) (first | exact HSx.out _ HW1.out | exact HSx.out _ HW2.out | exact HSx.out _ BZ.out | exact HSx.out _ (Below.step BZ.out (below_box _ _)) | exact HSx.out _ (below_set (below_set BZ.out (Nat.le_refl _) _ _) (Nat.le_refl _) _ _) | exact HSx.out _ (below_set (below_set BZ.out BT.out.size _ _) BT.out.size _ _) | exact HSx.out _ BT.out | exact HSx.out _ (Below.step BT.out (below_box _ _))) (first
      | (go_at_call 9; refine Calls.mono (HCt.out _ HW1.out) ?_; rintro e wt ⟨at1, ct, rfl, rt, belt⟩; have BT : Hid (Below w7b.heap.size w7b wt) := Below.step HW1.out belt; have RT : Hid (Rds wt (.slice at1 css.length ct) (css.map (·.map ngv))) := rt; clear rt belt)
      | (go_at_call 9; refine Calls.mono (HCt.out _ HW2.out) ?_; rintro e wt ⟨at1, ct, rfl, rt, belt⟩; have BT : Hid (Below w7b.heap.size w7b wt) := Below.step HW2.out belt; have RT : Hid (Rds wt (.slice at1 css.length ct) (css.map (·.map ngv))) := rt; have QT : Hid (Below (w7b.alloc (.cells #[.int .i64 0, .slice none 0 0] 24)).heap.size (w7b.alloc (.cells #[.int .i64 0, .slice none 0 0] 24)) wt) := Below.step (Below.refl _ _).drew belt; clear rt belt)
      | (go_at_call 8; refine Calls.mono (HCj.out wt _ (BT.out) RT.out) ?_; rintro e wz ⟨az, cz, rfl, ownz, belz⟩; have BZ : Hid (Below w7b.heap.size w7b wz) := Below.step BT.out belz; have qz := Below.step QT.out belz; have F9 := (show Hid _ from HS3.out.ans2 qz (ownf_mono ownz QT.out.size) v1); have BB : Hid (Bx2 wz w7b.heap.size 24 (.int .i64 0) (.slice none 0 0)) := (Bx2.new _ _ _ _).below qz; have g0 := BB.out.c0; have g1 := BB.out.c1; have g2 := BB.out.f0; have g3 := BB.out.f1; clear ownz belz qz)
      | (go_at_call 8; refine Calls.mono (HCj.out (wt.alloc (.cells #[.int .i64 0, .slice none 0 0] 24)) _ (Below.step BT.out (below_box _ _)) (RT.out.below (below_box _ _))) ?_; rintro e wz ⟨az, cz, rfl, ownz, belz⟩; have BZ : Hid (Below w7b.heap.size w7b wz) := Below.step (Below.step BT.out (below_box _ _)) belz; have F9 := (show Hid _ from (HS3.out.below BT.out).ans2 belz ownz v1); have BB : Hid (Bx2 wz wt.heap.size 24 (.int .i64 0) (.slice none 0 0)) := (Bx2.new _ _ _ _).below belz; have g0 := BB.out.c0; have g1 := BB.out.c1; have g2 := BB.out.f0; have g3 := BB.out.f1; clear ownz belz)
      | (go_at_call 8; refine Calls.mono (HCj.out wt _ (BT.out) RT.out) ?_; rintro e wz ⟨az, cz, rfl, ownz, belz⟩; have BZ : Hid (Below w7b.heap.size w7b wz) := Below.step BT.out belz; have F9 := (show Hid _ from (HS3.out.below BT.out).ans belz ownz v1); clear ownz belz))
    all_goals
      go_wp2_with fail
      go_meet
      obtain ⟨L9, e9, k9⟩ := F9.out
      exact ⟨_, _, _, L9, rfl, e9, k9⟩
  case rest =>
  obtain ⟨D8, a8, c8, L8, rfl, e8, k8⟩ := hcut
  generalize wc = w8 at *
  have HE8 : Hid (L8.map Prod.snd = vcs) := e8
  have HK4 : Hid (Kx w3 wA.heap.size wA w8 [(Di, .int .i64 n, (.slice (some ⟨gx, 0, none⟩) css.length cx)), (Db, .int .i64 m, (.slice (some ⟨gy, 0, none⟩) dss.length cy)), (w6.heap.size, .int .i64 u1, .slice a6 ucs.length c6), (w7.heap.size, .int .i64 t1, .slice a7 tcs.length c7), (D8, .int .i64 v1, .slice a8 vcs.length c8)] [(u1, .slice a6 ucs.length c6, L6), (t1, .slice a7 tcs.length c7, L7), (v1, .slice a8 vcs.length c8, L8)]) := k8
  clear HSx HCt HCj e8 k8 HK3 HS3 HW1 HW2
  --D5
  have d0 := (HK4.out.bx (Di, .int .i64 n, (.slice (some ⟨gx, 0, none⟩) css.length cx)) (by simp)).1.c0
  have d1 := (HK4.out.bx (Di, .int .i64 n, (.slice (some ⟨gx, 0, none⟩) css.length cx)) (by simp)).1.c1
  have d2 := (HK4.out.bx (Db, .int .i64 m, (.slice (some ⟨gy, 0, none⟩) dss.length cy)) (by simp)).1.c0
  have d3 := (HK4.out.bx (Db, .int .i64 m, (.slice (some ⟨gy, 0, none⟩) dss.length cy)) (by simp)).1.c1
  go_wp2_with fail
  refine Calls.mono (says_p HU.out.1 (HRd.out _ HK4.out.ref).1 (HRd.out _ HK4.out.ref).2 (by have := H8.out.2.2; omega)) ?_
  rintro e w9 ⟨a9, c9, rfl, own9, bel9⟩
  obtain ⟨L9, e9, k9⟩ := HK4.out.ans bel9 own9 u1
  have HE9 : Hid (L9.map Prod.snd = ucs) := e9
  have HK5 : Hid (Kx w3 wA.heap.size wA (w9.alloc (.cells #[.int .i64 u1, .slice a9 ucs.length c9] 24)) [(Di, .int .i64 n, (.slice (some ⟨gx, 0, none⟩) css.length cx)), (Db, .int .i64 m, (.slice (some ⟨gy, 0, none⟩) dss.length cy)), (w6.heap.size, .int .i64 u1, .slice a6 ucs.length c6), (w7.heap.size, .int .i64 t1, .slice a7 tcs.length c7), (D8, .int .i64 v1, .slice a8 vcs.length c8), (w9.heap.size, .int .i64 u1, .slice a9 ucs.length c9)] [(u1, .slice a6 ucs.length c6, L6), (t1, .slice a7 tcs.length c7, L7), (v1, .slice a8 vcs.length c8, L8), (u1, .slice a9 ucs.length c9, L9)]) := k9
  clear own9 bel9 k9 e9 HK4 d0 d1 d2 d3
  have d0 := (HK5.out.bx (Di, .int .i64 n, (.slice (some ⟨gx, 0, none⟩) css.length cx)) (by simp)).1.c0
  have d1 := (HK5.out.bx (Di, .int .i64 n, (.slice (some ⟨gx, 0, none⟩) css.length cx)) (by simp)).1.c1
  have d2 := (HK5.out.bx (Db, .int .i64 m, (.slice (some ⟨gy, 0, none⟩) dss.length cy)) (by simp)).1.c0
  have d3 := (HK5.out.bx (Db, .int .i64 m, (.slice (some ⟨gy, 0, none⟩) dss.length cy)) (by simp)).1.c1
  go_wp2_with fail
  generalize (w9.alloc (.cells #[.int .i64 u1, .slice a9 ucs.length c9] 24)) = w9b at *
  refine Calls.mono (says_p HU.out.1 (HRd.out _ HK5.out.ref).1 (HRd.out _ HK5.out.ref).2 (by have := H8.out.2.2; omega)) ?_
  rintro e w10 ⟨a10, c10, rfl, own10, bel10⟩
  obtain ⟨L10, e10, k10⟩ := HK5.out.ans bel10 own10 u1
  have HE10 : Hid (L10.map Prod.snd = ucs) := e10
  have HK6 : Hid (Kx w3 wA.heap.size wA (w10.alloc (.cells #[.int .i64 u1, .slice a10 ucs.length c10] 24)) [(Di, .int .i64 n, (.slice (some ⟨gx, 0, none⟩) css.length cx)), (Db, .int .i64 m, (.slice (some ⟨gy, 0, none⟩) dss.length cy)), (w6.heap.size, .int .i64 u1, .slice a6 ucs.length c6), (w7.heap.size, .int .i64 t1, .slice a7 tcs.length c7), (D8, .int .i64 v1, .slice a8 vcs.length c8), (w9.heap.size, .int .i64 u1, .slice a9 ucs.length c9), (w10.heap.size, .int .i64 u1, .slice a10 ucs.length c10)] [(u1, .slice a6 ucs.length c6, L6), (t1, .slice a7 tcs.length c7, L7), (v1, .slice a8 vcs.length c8, L8), (u1, .slice a9 ucs.length c9, L9), (u1, .slice a10 ucs.length c10, L10)]) := k10
  clear own10 bel10 k10 e10 HK5 d0 d1 d2 d3
  have d0 := (HK6.out.bx (Di, .int .i64 n, (.slice (some ⟨gx, 0, none⟩) css.length cx)) (by simp)).1.c0
  have d1 := (HK6.out.bx (Di, .int .i64 n, (.slice (some ⟨gx, 0, none⟩) css.length cx)) (by simp)).1.c1
  have d2 := (HK6.out.bx (Db, .int .i64 m, (.slice (some ⟨gy, 0, none⟩) dss.length cy)) (by simp)).1.c0
  have d3 := (HK6.out.bx (Db, .int .i64 m, (.slice (some ⟨gy, 0, none⟩) dss.length cy)) (by simp)).1.c1
  go_wp2_with fail
  generalize (w10.alloc (.cells #[.int .i64 u1, .slice a10 ucs.length c10] 24)) = w10b at *
  refine Calls.mono (says_p HT.out.1 (HRd.out _ HK6.out.ref).1 (HRd.out _ HK6.out.ref).1 (by have := H8.out.2.2; omega)) ?_
  rintro e w11 ⟨a11, c11, rfl, own11, bel11⟩
  obtain ⟨L11, e11, k11⟩ := HK6.out.ans bel11 own11 t1
  have HE11 : Hid (L11.map Prod.snd = tcs) := e11
  have HK7 : Hid (Kx w3 wA.heap.size wA (w11.alloc (.cells #[.int .i64 t1, .slice a11 tcs.length c11] 24)) [(Di, .int .i64 n, (.slice (some ⟨gx, 0, none⟩) css.length cx)), (Db, .int .i64 m, (.slice (some ⟨gy, 0, none⟩) dss.length cy)), (w6.heap.size, .int .i64 u1, .slice a6 ucs.length c6), (w7.heap.size, .int .i64 t1, .slice a7 tcs.length c7), (D8, .int .i64 v1, .slice a8 vcs.length c8), (w9.heap.size, .int .i64 u1, .slice a9 ucs.length c9), (w10.heap.size, .int .i64 u1, .slice a10 ucs.length c10), (w11.heap.size, .int .i64 t1, .slice a11 tcs.length c11)] [(u1, .slice a6 ucs.length c6, L6), (t1, .slice a7 tcs.length c7, L7), (v1, .slice a8 vcs.length c8, L8), (u1, .slice a9 ucs.length c9, L9), (u1, .slice a10 ucs.length c10, L10), (t1, .slice a11 tcs.length c11, L11)]) := k11
  clear own11 bel11 k11 e11 HK6 d0 d1 d2 d3
  have d1 := (HX3.out.on HK7.out.bel).f1
  have x0 := (HBx.out _ HK7.out.ref).c0
  have x1 := (HBx.out _ HK7.out.ref).c1
  have x2 := (HBx.out _ HK7.out.ref).c2
  go_wp2_with fail
  generalize (w11.alloc (.cells #[.int .i64 t1, .slice a11 tcs.length c11] 24)) = w11b at *
  refine Calls.mono (keptRows_any Bx (.slice (some ⟨gx, 0, none⟩) css.length cx) (.slice (some ⟨gx, 0, none⟩) (css.length + 64) cx) (.slice arx Lx.length crx) s css Lx Mx w11b (HLx.out _ HK7.out.ref) (HX3.out.on HK7.out.bel).rf (by have := H8.out.2.2; omega)) ?_
  rintro e w12 ⟨rfl, bel12⟩
  have HK8 : Hid (Kx w3 wA.heap.size wA w12 [(Di, .int .i64 n, (.slice (some ⟨gx, 0, none⟩) css.length cx)), (Db, .int .i64 m, (.slice (some ⟨gy, 0, none⟩) dss.length cy)), (w6.heap.size, .int .i64 u1, .slice a6 ucs.length c6), (w7.heap.size, .int .i64 t1, .slice a7 tcs.length c7), (D8, .int .i64 v1, .slice a8 vcs.length c8), (w9.heap.size, .int .i64 u1, .slice a9 ucs.length c9), (w10.heap.size, .int .i64 u1, .slice a10 ucs.length c10), (w11.heap.size, .int .i64 t1, .slice a11 tcs.length c11)] [(u1, .slice a6 ucs.length c6, L6), (t1, .slice a7 tcs.length c7, L7), (v1, .slice a8 vcs.length c8, L8), (u1, .slice a9 ucs.length c9, L9), (u1, .slice a10 ucs.length c10, L10), (t1, .slice a11 tcs.length c11, L11)]) := HK7.out.below bel12
  clear bel12 HK7 d1 x0 x1 x2
  have d1 := (HX3.out.on HK8.out.bel).g1
  have x0 := (HBy.out _ HK8.out.ref).c0
  have x1 := (HBy.out _ HK8.out.ref).c1
  have x2 := (HBy.out _ HK8.out.ref).c2
  go_wp2_with fail
  refine Calls.mono (keptRows_any By (.slice (some ⟨gy, 0, none⟩) dss.length cy) (.slice (some ⟨gy, 0, none⟩) (dss.length + 64) cy) (.slice ary Ly.length cry) t dss Ly My w12 (HLy.out _ HK8.out.ref) (HX3.out.on HK8.out.bel).rg (by have := H8.out.2.2; omega)) ?_
  rintro e w13 ⟨rfl, bel13⟩
  have HK9 : Hid (Kx w3 wA.heap.size wA w13 [(Di, .int .i64 n, (.slice (some ⟨gx, 0, none⟩) css.length cx)), (Db, .int .i64 m, (.slice (some ⟨gy, 0, none⟩) dss.length cy)), (w6.heap.size, .int .i64 u1, .slice a6 ucs.length c6), (w7.heap.size, .int .i64 t1, .slice a7 tcs.length c7), (D8, .int .i64 v1, .slice a8 vcs.length c8), (w9.heap.size, .int .i64 u1, .slice a9 ucs.length c9), (w10.heap.size, .int .i64 u1, .slice a10 ucs.length c10), (w11.heap.size, .int .i64 t1, .slice a11 tcs.length c11)] [(u1, .slice a6 ucs.length c6, L6), (t1, .slice a7 tcs.length c7, L7), (v1, .slice a8 vcs.length c8, L8), (u1, .slice a9 ucs.length c9, L9), (u1, .slice a10 ucs.length c10, L10), (t1, .slice a11 tcs.length c11, L11)]) := HK8.out.below bel13
  clear bel13 HK8 d1 x0 x1 x2
  have d0 := (HK9.out.bx (Di, .int .i64 n, (.slice (some ⟨gx, 0, none⟩) css.length cx)) (by simp)).1.c0
  have d1 := (HK9.out.bx (Di, .int .i64 n, (.slice (some ⟨gx, 0, none⟩) css.length cx)) (by simp)).1.c1
  have d2 := (HK9.out.bx (Db, .int .i64 m, (.slice (some ⟨gy, 0, none⟩) dss.length cy)) (by simp)).1.c0
  have d3 := (HK9.out.bx (Db, .int .i64 m, (.slice (some ⟨gy, 0, none⟩) dss.length cy)) (by simp)).1.c1
  go_wp2_with fail
  refine Calls.mono (says_p HU.out.1 (HRd.out _ HK9.out.ref).1 (HRd.out _ HK9.out.ref).2 (by have := H8.out.2.2; omega)) ?_
  rintro e w14 ⟨a14, c14, rfl, own14, bel14⟩
  obtain ⟨L14, e14, k14⟩ := HK9.out.ans bel14 own14 u1
  have HE14 : Hid (L14.map Prod.snd = ucs) := e14
  have HK10 : Hid (Kx w3 wA.heap.size wA (w14.alloc (.cells #[.int .i64 u1, .slice a14 ucs.length c14] 24)) [(Di, .int .i64 n, (.slice (some ⟨gx, 0, none⟩) css.length cx)), (Db, .int .i64 m, (.slice (some ⟨gy, 0, none⟩) dss.length cy)), (w6.heap.size, .int .i64 u1, .slice a6 ucs.length c6), (w7.heap.size, .int .i64 t1, .slice a7 tcs.length c7), (D8, .int .i64 v1, .slice a8 vcs.length c8), (w9.heap.size, .int .i64 u1, .slice a9 ucs.length c9), (w10.heap.size, .int .i64 u1, .slice a10 ucs.length c10), (w11.heap.size, .int .i64 t1, .slice a11 tcs.length c11), (w14.heap.size, .int .i64 u1, .slice a14 ucs.length c14)] [(u1, .slice a6 ucs.length c6, L6), (t1, .slice a7 tcs.length c7, L7), (v1, .slice a8 vcs.length c8, L8), (u1, .slice a9 ucs.length c9, L9), (u1, .slice a10 ucs.length c10, L10), (t1, .slice a11 tcs.length c11, L11), (u1, .slice a14 ucs.length c14, L14)]) := k14
  clear own14 bel14 k14 e14 HK9 d0 d1 d2 d3
  have x0 := (HBx.out _ HK10.out.ref).c0
  go_wp2_with fail
  generalize (w14.alloc (.cells #[.int .i64 u1, .slice a14 ucs.length c14] 24)) = w14b at *
  refine Calls.mono (turn_any Bx (some ⟨gx, 0, none⟩) cx css m64 Lx w14b (HLx.out _ HK10.out.ref).tn (by have := HCx.out.1; omega) (by have := H8.out.2.2; omega) (fun z hz => by have := H8.out.1 z hz; omega)) ?_
  rintro e w15 ⟨⟨v15, rfl⟩, hf15, tn15⟩
  have HK11 : Hid (Kx w3 wA.heap.size w15 w15 [(Di, .int .i64 n, (.slice (some ⟨gx, 0, none⟩) css.length cx)), (Db, .int .i64 m, (.slice (some ⟨gy, 0, none⟩) dss.length cy)), (w6.heap.size, .int .i64 u1, .slice a6 ucs.length c6), (w7.heap.size, .int .i64 t1, .slice a7 tcs.length c7), (D8, .int .i64 v1, .slice a8 vcs.length c8), (w9.heap.size, .int .i64 u1, .slice a9 ucs.length c9), (w10.heap.size, .int .i64 u1, .slice a10 ucs.length c10), (w11.heap.size, .int .i64 t1, .slice a11 tcs.length c11), (w14.heap.size, .int .i64 u1, .slice a14 ucs.length c14)] [(u1, .slice a6 ucs.length c6, L6), (t1, .slice a7 tcs.length c7, L7), (v1, .slice a8 vcs.length c8, L8), (u1, .slice a9 ucs.length c9, L9), (u1, .slice a10 ucs.length c10, L10), (t1, .slice a11 tcs.length c11, L11), (u1, .slice a14 ucs.length c14, L14)]) := HK10.out.out hf15 (fun k ⟨x, hx, e⟩ => HOx.out k (.inr (.inr ⟨x, hx, e⟩)))
  have HB : Hid (Kt (Dx, (.slice (some ⟨gx, 0, none⟩) css.length cx), (.slice (some ⟨gx, 0, none⟩) (css.length + 64) cx), (.slice arx Lx.length crx)) (Dy, (.slice (some ⟨gy, 0, none⟩) dss.length cy), (.slice (some ⟨gy, 0, none⟩) (dss.length + 64) cy), (.slice ary Ly.length cry)) ⟨Bx, (.slice (some ⟨gx, 0, none⟩) css.length cx), (.slice (some ⟨gx, 0, none⟩) (css.length + 64) cx), (.slice arx Lx.length crx), css, Lx, Mx⟩ ⟨By, (.slice (some ⟨gy, 0, none⟩) dss.length cy), (.slice (some ⟨gy, 0, none⟩) (dss.length + 64) cy), (.slice ary Ly.length cry), dss, Ly, My⟩ w15) := (HA.out.below HK10.out.ref).turned hf15 tn15 rfl (by have := HCx.out.1; show css.length ≤ cx; omega) HCx.out.2 (by have := H8.out.2.2; show css.length * 24 ≤ _; omega) (ng8 H8.out.1)
  clear hf15 tn15 HK10 x0 HRd
  have HRd : Hid (∀ W, Below w15.heap.size w15 W → Rds W (.slice (some ⟨gx, 0, none⟩) css.length cx) (css.map (·.map ngv)) ∧ Rds W (.slice (some ⟨gy, 0, none⟩) dss.length cy) dss) := fun W h => ⟨(HB.out.below h).ix, (HB.out.below h).ky.tn.rds (by have := HCy.out.1; omega) HCy.out.2 (by simp) (by have := H8.out.2.2; omega) H8.out.2.1⟩
  --D6
  have d0 := (HK11.out.bx (Di, .int .i64 n, (.slice (some ⟨gx, 0, none⟩) css.length cx)) (by simp)).1.c0
  have d1 := (HK11.out.bx (Di, .int .i64 n, (.slice (some ⟨gx, 0, none⟩) css.length cx)) (by simp)).1.c1
  have d2 := (HK11.out.bx (Db, .int .i64 m, (.slice (some ⟨gy, 0, none⟩) dss.length cy)) (by simp)).1.c0
  have d3 := (HK11.out.bx (Db, .int .i64 m, (.slice (some ⟨gy, 0, none⟩) dss.length cy)) (by simp)).1.c1
  go_wp2_with fail
  refine Calls.mono (says_p HV.out.1 (HRd.out _ HK11.out.ref).1 (HRd.out _ HK11.out.ref).2 (by have := H8.out.2.2; rw [List.length_map]; omega)) ?_
  rintro e w16 ⟨a16, c16, rfl, own16, bel16⟩
  obtain ⟨L16, e16, k16⟩ := HK11.out.ans bel16 own16 v1
  have HE16 : Hid (L16.map Prod.snd = vcs) := e16
  have HK12 : Hid (Kx w3 wA.heap.size w15 (w16.alloc (.cells #[.int .i64 v1, .slice a16 vcs.length c16] 24)) [(Di, .int .i64 n, (.slice (some ⟨gx, 0, none⟩) css.length cx)), (Db, .int .i64 m, (.slice (some ⟨gy, 0, none⟩) dss.length cy)), (w6.heap.size, .int .i64 u1, .slice a6 ucs.length c6), (w7.heap.size, .int .i64 t1, .slice a7 tcs.length c7), (D8, .int .i64 v1, .slice a8 vcs.length c8), (w9.heap.size, .int .i64 u1, .slice a9 ucs.length c9), (w10.heap.size, .int .i64 u1, .slice a10 ucs.length c10), (w11.heap.size, .int .i64 t1, .slice a11 tcs.length c11), (w14.heap.size, .int .i64 u1, .slice a14 ucs.length c14), (w16.heap.size, .int .i64 v1, .slice a16 vcs.length c16)] [(u1, .slice a6 ucs.length c6, L6), (t1, .slice a7 tcs.length c7, L7), (v1, .slice a8 vcs.length c8, L8), (u1, .slice a9 ucs.length c9, L9), (u1, .slice a10 ucs.length c10, L10), (t1, .slice a11 tcs.length c11, L11), (u1, .slice a14 ucs.length c14, L14), (v1, .slice a16 vcs.length c16, L16)]) := k16
  clear own16 bel16 k16 e16 HK11 d0 d1 d2 d3
  have x0 := (show Bx3 _ Dx 30 (.slice (some ⟨gx, 0, none⟩) css.length cx) (.slice (some ⟨gx, 0, none⟩) (css.length + 64) cx) (.slice arx Lx.length crx) from (HB.out.below HK12.out.ref).x).c0
  have x1 := (show Bx3 _ Dx 30 (.slice (some ⟨gx, 0, none⟩) css.length cx) (.slice (some ⟨gx, 0, none⟩) (css.length + 64) cx) (.slice arx Lx.length crx) from (HB.out.below HK12.out.ref).x).c1
  have x2 := (show Bx3 _ Dx 30 (.slice (some ⟨gx, 0, none⟩) css.length cx) (.slice (some ⟨gx, 0, none⟩) (css.length + 64) cx) (.slice arx Lx.length crx) from (HB.out.below HK12.out.ref).x).c2
  go_wp2_with fail
  generalize (w16.alloc (.cells #[.int .i64 v1, .slice a16 vcs.length c16] 24)) = w16b at *
  refine Calls.mono (overRows_any Bx (.slice (some ⟨gx, 0, none⟩) css.length cx) (.slice arx Lx.length crx) gx cx (css.length + 64) (Lx.map (tnC m64)) (Lx.map cutV ++ Mx.map Prod.fst) [] w16b (HB.out.below HK12.out.ref).lr (by have := HLn.out; rw [List.length_append, List.length_map, List.length_map]; omega) (by have := H8.out.2.2; omega) (by have := HLn.out; have := H8.out.2.2; rw [List.length_map]; omega) (fun x hx => by
    obtain ⟨y, hy, rfl⟩ := List.mem_map.1 hx
    have h1 := (HLx.out wA (Below.refl _ _)).ls
    have h2 : y.2 ∈ css.map (· ++ m64) := by rw [← h1]; exact List.mem_map_of_mem hy
    obtain ⟨z, hz, e⟩ := List.mem_map.1 h2
    have h3 := H8.out.1 z hz
    show ((y.2.take (y.2.length - m64.length)).map ngv ++ m64).length ≤ _
    rw [← e]
    simp only [List.length_append, m64_len, List.length_map, List.length_take]
    omega) (Nat.le_trans (Nat.le_trans ((by have := (HLx.out wA (Below.refl _ _)).l.w.lt gx rfl; omega)) HK12.out.sz) (Nat.le_refl _))) ?_
  rintro e w17 ⟨rfl, hf17, -⟩
  have HK13 : Hid (Kx w3 wA.heap.size w17 w17 [(Di, .int .i64 n, (.slice (some ⟨gx, 0, none⟩) css.length cx)), (Db, .int .i64 m, (.slice (some ⟨gy, 0, none⟩) dss.length cy)), (w6.heap.size, .int .i64 u1, .slice a6 ucs.length c6), (w7.heap.size, .int .i64 t1, .slice a7 tcs.length c7), (D8, .int .i64 v1, .slice a8 vcs.length c8), (w9.heap.size, .int .i64 u1, .slice a9 ucs.length c9), (w10.heap.size, .int .i64 u1, .slice a10 ucs.length c10), (w11.heap.size, .int .i64 t1, .slice a11 tcs.length c11), (w14.heap.size, .int .i64 u1, .slice a14 ucs.length c14), (w16.heap.size, .int .i64 v1, .slice a16 vcs.length c16)] [(u1, .slice a6 ucs.length c6, L6), (t1, .slice a7 tcs.length c7, L7), (v1, .slice a8 vcs.length c8, L8), (u1, .slice a9 ucs.length c9, L9), (u1, .slice a10 ucs.length c10, L10), (t1, .slice a11 tcs.length c11, L11), (u1, .slice a14 ucs.length c14, L14), (v1, .slice a16 vcs.length c16, L16)]) := HK12.out.out hf17 (fun k hk => HOx.out k (lown_turned hk))
  have HZ : Hid (Bxr w17 (Dy, (.slice (some ⟨gy, 0, none⟩) dss.length cy), (.slice (some ⟨gy, 0, none⟩) (dss.length + 64) cy), (.slice ary Ly.length cry)) ∧ Lk By w17 (.slice (some ⟨gy, 0, none⟩) (dss.length + 64) cy) (.slice ary Ly.length cry) dss Ly My) := (HB.out.below HK12.out.ref).over HA.out hf17
  clear hf17 HK12 x0 x1 x2 HRd HB
  have x0 := (show Bx3 _ Dy 30 (.slice (some ⟨gy, 0, none⟩) dss.length cy) (.slice (some ⟨gy, 0, none⟩) (dss.length + 64) cy) (.slice ary Ly.length cry) from HZ.out.1).c0
  have x1 := (show Bx3 _ Dy 30 (.slice (some ⟨gy, 0, none⟩) dss.length cy) (.slice (some ⟨gy, 0, none⟩) (dss.length + 64) cy) (.slice ary Ly.length cry) from HZ.out.1).c1
  have x2 := (show Bx3 _ Dy 30 (.slice (some ⟨gy, 0, none⟩) dss.length cy) (.slice (some ⟨gy, 0, none⟩) (dss.length + 64) cy) (.slice ary Ly.length cry) from HZ.out.1).c2
  go_wp2_with fail
  refine Calls.mono (overRows_any By (.slice (some ⟨gy, 0, none⟩) dss.length cy) (.slice ary Ly.length cry) gy cy (dss.length + 64) Ly (Ly.map cutV ++ My.map Prod.fst) My w17 HZ.out.2.l (by have := HLn.out; rw [List.length_append, List.length_map, List.length_map]; omega) (by have := H8.out.2.2; omega) (by have := HLn.out; have := H8.out.2.2; omega) (fun y hy => by
    have h1 := (HLy.out wA (Below.refl _ _)).ls
    have h2 : y.2 ∈ dss.map (· ++ m64) := by rw [← h1]; exact List.mem_map_of_mem hy
    obtain ⟨z, hz, e⟩ := List.mem_map.1 h2
    have h3 := H8.out.2.1 z hz
    rw [← e]
    simp only [List.length_append, m64_len]
    omega) (Nat.le_trans ((by have := (HLy.out wA (Below.refl _ _)).l.w.lt gy rfl; omega)) HK13.out.sz)) ?_
  rintro e w18 ⟨rfl, hf18, -⟩
  have HK14 : Hid (Kx w3 wA.heap.size w18 w18 [(Di, .int .i64 n, (.slice (some ⟨gx, 0, none⟩) css.length cx)), (Db, .int .i64 m, (.slice (some ⟨gy, 0, none⟩) dss.length cy)), (w6.heap.size, .int .i64 u1, .slice a6 ucs.length c6), (w7.heap.size, .int .i64 t1, .slice a7 tcs.length c7), (D8, .int .i64 v1, .slice a8 vcs.length c8), (w9.heap.size, .int .i64 u1, .slice a9 ucs.length c9), (w10.heap.size, .int .i64 u1, .slice a10 ucs.length c10), (w11.heap.size, .int .i64 t1, .slice a11 tcs.length c11), (w14.heap.size, .int .i64 u1, .slice a14 ucs.length c14), (w16.heap.size, .int .i64 v1, .slice a16 vcs.length c16)] [(u1, .slice a6 ucs.length c6, L6), (t1, .slice a7 tcs.length c7, L7), (v1, .slice a8 vcs.length c8, L8), (u1, .slice a9 ucs.length c9, L9), (u1, .slice a10 ucs.length c10, L10), (t1, .slice a11 tcs.length c11, L11), (u1, .slice a14 ucs.length c14, L14), (v1, .slice a16 vcs.length c16, L16)]) := HK13.out.out hf18 HOy.out
  clear hf18 HK13 x0 x1 x2 HZ HLx HLy HBx HBy HA
  have HUr : Hid (∀ W a c (L0 : List Cls), OwnR wA.heap.size W (.slice a ucs.length c) L0 → L0.map Prod.snd = ucs → Rds W (.slice a ucs.length c) ucs) := fun W a c L0 h e => OwnF.rds ⟨L0, h, e⟩ (by have := HU.out.2.1; omega) HU.out.2.2
  have HTr : Hid (∀ W a c (L0 : List Cls), OwnR wA.heap.size W (.slice a tcs.length c) L0 → L0.map Prod.snd = tcs → Rds W (.slice a tcs.length c) tcs) := fun W a c L0 h e => OwnF.rds ⟨L0, h, e⟩ (by have := HT.out.2.1; omega) HT.out.2.2
  have HVr : Hid (∀ W a c (L0 : List Cls), OwnR wA.heap.size W (.slice a vcs.length c) L0 → L0.map Prod.snd = vcs → Rds W (.slice a vcs.length c) vcs) := fun W a c L0 h e => OwnF.rds ⟨L0, h, e⟩ (by have := HV.out.2.1; omega) HV.out.2.2
  --D7
  have g00 := (HK14.out.bx (w9.heap.size, .int .i64 u1, .slice a9 ucs.length c9) (by simp)).1.c0
  have g01 := (HK14.out.bx (w9.heap.size, .int .i64 u1, .slice a9 ucs.length c9) (by simp)).1.c1
  have g10 := (HK14.out.bx (w6.heap.size, .int .i64 u1, .slice a6 ucs.length c6) (by simp)).1.c0
  have g11 := (HK14.out.bx (w6.heap.size, .int .i64 u1, .slice a6 ucs.length c6) (by simp)).1.c1
  go_wp2_with fail
  refine Calls.mono (sameFormula_self u1 _ _ ucs w18 (HUr.out _ _ _ L9 (HK14.out.own (u1, .slice a9 ucs.length c9, L9) (by simp)) HE9.out) (HUr.out _ _ _ L6 (HK14.out.own (u1, .slice a6 ucs.length c6, L6) (by simp)) HE6.out)) ?_
  rintro e w19 ⟨rfl, bel19⟩
  have HK15 : Hid (Kx w3 wA.heap.size w18 w19 [(Di, .int .i64 n, (.slice (some ⟨gx, 0, none⟩) css.length cx)), (Db, .int .i64 m, (.slice (some ⟨gy, 0, none⟩) dss.length cy)), (w6.heap.size, .int .i64 u1, .slice a6 ucs.length c6), (w7.heap.size, .int .i64 t1, .slice a7 tcs.length c7), (D8, .int .i64 v1, .slice a8 vcs.length c8), (w9.heap.size, .int .i64 u1, .slice a9 ucs.length c9), (w10.heap.size, .int .i64 u1, .slice a10 ucs.length c10), (w11.heap.size, .int .i64 t1, .slice a11 tcs.length c11), (w14.heap.size, .int .i64 u1, .slice a14 ucs.length c14), (w16.heap.size, .int .i64 v1, .slice a16 vcs.length c16)] [(u1, .slice a6 ucs.length c6, L6), (t1, .slice a7 tcs.length c7, L7), (v1, .slice a8 vcs.length c8, L8), (u1, .slice a9 ucs.length c9, L9), (u1, .slice a10 ucs.length c10, L10), (t1, .slice a11 tcs.length c11, L11), (u1, .slice a14 ucs.length c14, L14), (v1, .slice a16 vcs.length c16, L16)]) := HK14.out.below bel19
  clear bel19 HK14
  clear g00 g01 g10 g11
  have g00 := (HK15.out.bx (w10.heap.size, .int .i64 u1, .slice a10 ucs.length c10) (by simp)).1.c0
  have g01 := (HK15.out.bx (w10.heap.size, .int .i64 u1, .slice a10 ucs.length c10) (by simp)).1.c1
  have g10 := (HK15.out.bx (w6.heap.size, .int .i64 u1, .slice a6 ucs.length c6) (by simp)).1.c0
  have g11 := (HK15.out.bx (w6.heap.size, .int .i64 u1, .slice a6 ucs.length c6) (by simp)).1.c1
  go_wp2_with fail
  refine Calls.mono (sameFormula_self u1 _ _ ucs w19 (HUr.out _ _ _ L10 (HK15.out.own (u1, .slice a10 ucs.length c10, L10) (by simp)) HE10.out) (HUr.out _ _ _ L6 (HK15.out.own (u1, .slice a6 ucs.length c6, L6) (by simp)) HE6.out)) ?_
  rintro e w20 ⟨rfl, bel20⟩
  have HK16 : Hid (Kx w3 wA.heap.size w18 w20 [(Di, .int .i64 n, (.slice (some ⟨gx, 0, none⟩) css.length cx)), (Db, .int .i64 m, (.slice (some ⟨gy, 0, none⟩) dss.length cy)), (w6.heap.size, .int .i64 u1, .slice a6 ucs.length c6), (w7.heap.size, .int .i64 t1, .slice a7 tcs.length c7), (D8, .int .i64 v1, .slice a8 vcs.length c8), (w9.heap.size, .int .i64 u1, .slice a9 ucs.length c9), (w10.heap.size, .int .i64 u1, .slice a10 ucs.length c10), (w11.heap.size, .int .i64 t1, .slice a11 tcs.length c11), (w14.heap.size, .int .i64 u1, .slice a14 ucs.length c14), (w16.heap.size, .int .i64 v1, .slice a16 vcs.length c16)] [(u1, .slice a6 ucs.length c6, L6), (t1, .slice a7 tcs.length c7, L7), (v1, .slice a8 vcs.length c8, L8), (u1, .slice a9 ucs.length c9, L9), (u1, .slice a10 ucs.length c10, L10), (t1, .slice a11 tcs.length c11, L11), (u1, .slice a14 ucs.length c14, L14), (v1, .slice a16 vcs.length c16, L16)]) := HK15.out.below bel20
  clear bel20 HK15
  clear g00 g01 g10 g11
  have g00 := (HK16.out.bx (w11.heap.size, .int .i64 t1, .slice a11 tcs.length c11) (by simp)).1.c0
  have g01 := (HK16.out.bx (w11.heap.size, .int .i64 t1, .slice a11 tcs.length c11) (by simp)).1.c1
  have g10 := (HK16.out.bx (w7.heap.size, .int .i64 t1, .slice a7 tcs.length c7) (by simp)).1.c0
  have g11 := (HK16.out.bx (w7.heap.size, .int .i64 t1, .slice a7 tcs.length c7) (by simp)).1.c1
  go_wp2_with fail
  refine Calls.mono (sameFormula_self t1 _ _ tcs w20 (HTr.out _ _ _ L11 (HK16.out.own (t1, .slice a11 tcs.length c11, L11) (by simp)) HE11.out) (HTr.out _ _ _ L7 (HK16.out.own (t1, .slice a7 tcs.length c7, L7) (by simp)) HE7.out)) ?_
  rintro e w21 ⟨rfl, bel21⟩
  have HK17 : Hid (Kx w3 wA.heap.size w18 w21 [(Di, .int .i64 n, (.slice (some ⟨gx, 0, none⟩) css.length cx)), (Db, .int .i64 m, (.slice (some ⟨gy, 0, none⟩) dss.length cy)), (w6.heap.size, .int .i64 u1, .slice a6 ucs.length c6), (w7.heap.size, .int .i64 t1, .slice a7 tcs.length c7), (D8, .int .i64 v1, .slice a8 vcs.length c8), (w9.heap.size, .int .i64 u1, .slice a9 ucs.length c9), (w10.heap.size, .int .i64 u1, .slice a10 ucs.length c10), (w11.heap.size, .int .i64 t1, .slice a11 tcs.length c11), (w14.heap.size, .int .i64 u1, .slice a14 ucs.length c14), (w16.heap.size, .int .i64 v1, .slice a16 vcs.length c16)] [(u1, .slice a6 ucs.length c6, L6), (t1, .slice a7 tcs.length c7, L7), (v1, .slice a8 vcs.length c8, L8), (u1, .slice a9 ucs.length c9, L9), (u1, .slice a10 ucs.length c10, L10), (t1, .slice a11 tcs.length c11, L11), (u1, .slice a14 ucs.length c14, L14), (v1, .slice a16 vcs.length c16, L16)]) := HK16.out.below bel21
  clear bel21 HK16
  clear g00 g01 g10 g11
  have g00 := (HK17.out.bx (w14.heap.size, .int .i64 u1, .slice a14 ucs.length c14) (by simp)).1.c0
  have g01 := (HK17.out.bx (w14.heap.size, .int .i64 u1, .slice a14 ucs.length c14) (by simp)).1.c1
  have g10 := (HK17.out.bx (w6.heap.size, .int .i64 u1, .slice a6 ucs.length c6) (by simp)).1.c0
  have g11 := (HK17.out.bx (w6.heap.size, .int .i64 u1, .slice a6 ucs.length c6) (by simp)).1.c1
  go_wp2_with fail
  refine Calls.mono (sameFormula_self u1 _ _ ucs w21 (HUr.out _ _ _ L14 (HK17.out.own (u1, .slice a14 ucs.length c14, L14) (by simp)) HE14.out) (HUr.out _ _ _ L6 (HK17.out.own (u1, .slice a6 ucs.length c6, L6) (by simp)) HE6.out)) ?_
  rintro e w22 ⟨rfl, bel22⟩
  have HK18 : Hid (Kx w3 wA.heap.size w18 w22 [(Di, .int .i64 n, (.slice (some ⟨gx, 0, none⟩) css.length cx)), (Db, .int .i64 m, (.slice (some ⟨gy, 0, none⟩) dss.length cy)), (w6.heap.size, .int .i64 u1, .slice a6 ucs.length c6), (w7.heap.size, .int .i64 t1, .slice a7 tcs.length c7), (D8, .int .i64 v1, .slice a8 vcs.length c8), (w9.heap.size, .int .i64 u1, .slice a9 ucs.length c9), (w10.heap.size, .int .i64 u1, .slice a10 ucs.length c10), (w11.heap.size, .int .i64 t1, .slice a11 tcs.length c11), (w14.heap.size, .int .i64 u1, .slice a14 ucs.length c14), (w16.heap.size, .int .i64 v1, .slice a16 vcs.length c16)] [(u1, .slice a6 ucs.length c6, L6), (t1, .slice a7 tcs.length c7, L7), (v1, .slice a8 vcs.length c8, L8), (u1, .slice a9 ucs.length c9, L9), (u1, .slice a10 ucs.length c10, L10), (t1, .slice a11 tcs.length c11, L11), (u1, .slice a14 ucs.length c14, L14), (v1, .slice a16 vcs.length c16, L16)]) := HK17.out.below bel22
  clear bel22 HK17
  clear g00 g01 g10 g11
  have g00 := (HK18.out.bx (w16.heap.size, .int .i64 v1, .slice a16 vcs.length c16) (by simp)).1.c0
  have g01 := (HK18.out.bx (w16.heap.size, .int .i64 v1, .slice a16 vcs.length c16) (by simp)).1.c1
  have g10 := (HK18.out.bx (D8, .int .i64 v1, .slice a8 vcs.length c8) (by simp)).1.c0
  have g11 := (HK18.out.bx (D8, .int .i64 v1, .slice a8 vcs.length c8) (by simp)).1.c1
  go_wp2_with fail
  refine Calls.mono (sameFormula_self v1 _ _ vcs w22 (HVr.out _ _ _ L16 (HK18.out.own (v1, .slice a16 vcs.length c16, L16) (by simp)) HE16.out) (HVr.out _ _ _ L8 (HK18.out.own (v1, .slice a8 vcs.length c8, L8) (by simp)) HE8.out)) ?_
  rintro e w23 ⟨rfl, bel23⟩
  have HK19 : Hid (Kx w3 wA.heap.size w18 w23 [(Di, .int .i64 n, (.slice (some ⟨gx, 0, none⟩) css.length cx)), (Db, .int .i64 m, (.slice (some ⟨gy, 0, none⟩) dss.length cy)), (w6.heap.size, .int .i64 u1, .slice a6 ucs.length c6), (w7.heap.size, .int .i64 t1, .slice a7 tcs.length c7), (D8, .int .i64 v1, .slice a8 vcs.length c8), (w9.heap.size, .int .i64 u1, .slice a9 ucs.length c9), (w10.heap.size, .int .i64 u1, .slice a10 ucs.length c10), (w11.heap.size, .int .i64 t1, .slice a11 tcs.length c11), (w14.heap.size, .int .i64 u1, .slice a14 ucs.length c14), (w16.heap.size, .int .i64 v1, .slice a16 vcs.length c16)] [(u1, .slice a6 ucs.length c6, L6), (t1, .slice a7 tcs.length c7, L7), (v1, .slice a8 vcs.length c8, L8), (u1, .slice a9 ucs.length c9, L9), (u1, .slice a10 ucs.length c10, L10), (t1, .slice a11 tcs.length c11, L11), (u1, .slice a14 ucs.length c14, L14), (v1, .slice a16 vcs.length c16, L16)]) := HK18.out.below bel23
  clear bel23 HK18
  clear g00 g01 g10 g11
  have g00 := (HK19.out.bx (w9.heap.size, .int .i64 u1, .slice a9 ucs.length c9) (by simp)).1.c0
  have g01 := (HK19.out.bx (w9.heap.size, .int .i64 u1, .slice a9 ucs.length c9) (by simp)).1.c1
  have g10 := (HK19.out.bx (w10.heap.size, .int .i64 u1, .slice a10 ucs.length c10) (by simp)).1.c0
  have g11 := (HK19.out.bx (w10.heap.size, .int .i64 u1, .slice a10 ucs.length c10) (by simp)).1.c1
  have g20 := (HK19.out.bx (w11.heap.size, .int .i64 t1, .slice a11 tcs.length c11) (by simp)).1.c0
  have g21 := (HK19.out.bx (w11.heap.size, .int .i64 t1, .slice a11 tcs.length c11) (by simp)).1.c1
  have g30 := (HK19.out.bx (w14.heap.size, .int .i64 u1, .slice a14 ucs.length c14) (by simp)).1.c0
  have g31 := (HK19.out.bx (w14.heap.size, .int .i64 u1, .slice a14 ucs.length c14) (by simp)).1.c1
  have g40 := (HK19.out.bx (w16.heap.size, .int .i64 v1, .slice a16 vcs.length c16) (by simp)).1.c0
  have g41 := (HK19.out.bx (w16.heap.size, .int .i64 v1, .slice a16 vcs.length c16) (by simp)).1.c1
  have HEs : Hid (∀ x ∈ ([(u1, .slice a9 ucs.length c9, L9), (u1, .slice a10 ucs.length c10, L10), (t1, .slice a11 tcs.length c11, L11), (u1, .slice a14 ucs.length c14, L14), (v1, .slice a16 vcs.length c16, L16)] : List (Int × Value × List Cls)), x.2.2.length ≤ 16777216 ∧ ∀ y ∈ x.2.2, y.2.length * 8 ≤ 140737488353280) := by
    have go : ∀ (q : Int) (v : Value) (L : List Cls) (cs : List (List Int)), L.map Prod.snd = cs → cs.length ≤ 2097152 → (∀ z ∈ cs, z.length * 8 ≤ 140737488351232) → L.length ≤ 16777216 ∧ ∀ y ∈ L, y.2.length * 8 ≤ 140737488353280 := fun q v L cs e h1 h2 => ⟨by have := congrArg List.length e; rw [List.length_map] at this; omega, fun y hy => by have := h2 y.2 (by rw [← e]; exact List.mem_map_of_mem hy); omega⟩
    intro x hx
    simp only [List.mem_cons, List.not_mem_nil, or_false] at hx
    rcases hx with rfl | rfl | rfl | rfl | rfl
    · exact go u1 (.bool true) _ _ HE9.out HU.out.2.1 HU.out.2.2
    · exact go u1 (.bool true) _ _ HE10.out HU.out.2.1 HU.out.2.2
    · exact go t1 (.bool true) _ _ HE11.out HT.out.2.1 HT.out.2.2
    · exact go u1 (.bool true) _ _ HE14.out HU.out.2.1 HU.out.2.2
    · exact go v1 (.bool true) _ _ HE16.out HV.out.2.1 HV.out.2.2
  have HAp := (show Hid _ from HK19.out.tail.tail.tail.apart (by simp) (fun x hx => (HEs.out x hx).1) (fun x hx => (HEs.out x hx).2))
  have HW : Hid (Below w.heap.size w w3) := HX3.out.bel
  clear HEs
  --D8
  go_wp2_with fail
  refine Calls.mono HAp.out ?_
  rintro e wf ⟨rfl, belf⟩
  go_wp2
  go_ret
  exact ⟨rfl, Below.step HW.out belf⟩
end Go.Proofs.Ytbnnoajpmmbpbaa.cnfKeepsJoin
