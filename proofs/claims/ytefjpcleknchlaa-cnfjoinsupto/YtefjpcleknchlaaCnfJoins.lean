/-
  CnfJoins, walked.
-/
import Derived.Test.YtefjpcleknchlaaJoinW
import Derived.Test.YtefjpcleknchlaaSameF
import Derived.Test.YtefjpcleknchlaaSmall
set_option linter.unusedSimpArgs false
set_option linter.unusedVariables false
namespace Go.Proofs.Ytefjpcleknchlaa.cnfJoins
open Go.RowKit

theorem jn24 {css dss : List (List Int)} (h : (css.length + dss.length) * 24 ≤ 140737488351232) (n m : Int) : (jnF n css m dss).2.1.length * 24 ≤ 140737488351232 := by
  unfold jnF; split
  · simpa using h
  · simp
theorem jn8 {css dss : List (List Int)} (h1 : ∀ z ∈ css, z.length * 8 ≤ 140737488351232) (h2 : ∀ z ∈ dss, z.length * 8 ≤ 140737488351232) (n m : Int) : ∀ z ∈ (jnF n css m dss).2.1, z.length * 8 ≤ 140737488351232 := by
  unfold jnF; split
  · intro z hz
    rcases List.mem_append.1 hz with h | h
    · exact h1 z h
    · exact h2 z h
  · simp
theorem jn_small : jnF 2 smallF 2 smallF = (2, (jnF 2 smallF 2 smallF).2.1, 0) := by decide

/-- two formulas' boxes, in a world that has grown -/
structure Tw (w : World) (n : Int) (s : Value) (css : List (List Int)) (m : Int) (t : Value) (dss : List (List Int)) (wr : World) : Prop where
  bel : Below w.heap.size w wr
  f0 : wr.cell? ⟨w.heap.size, 0, none⟩ = some (.int .i64 n)
  f1 : wr.cell? ⟨w.heap.size, 1, none⟩ = some s
  g0 : wr.cell? ⟨w.heap.size + 1, 0, none⟩ = some (.int .i64 m)
  g1 : wr.cell? ⟨w.heap.size + 1, 1, none⟩ = some t
  rf : Rds wr s css
  rg : Rds wr t dss
theorem Tw.on {w : World} {n : Int} {s : Value} {css : List (List Int)} {m : Int} {t : Value} {dss : List (List Int)} {wr w' : World} (h : Tw w n s css m t dss wr) (hb : Below wr.heap.size wr w') : Tw w n s css m t dss w' :=
  ⟨h.bel.trans (hb.mono h.bel.size), (hb.cell (p := ⟨w.heap.size, 0, none⟩) (World.block_lt_of_cell? wr _ h.f0)).trans h.f0, (hb.cell (p := ⟨w.heap.size, 1, none⟩) (World.block_lt_of_cell? wr _ h.f1)).trans h.f1,
    (hb.cell (p := ⟨w.heap.size + 1, 0, none⟩) (World.block_lt_of_cell? wr _ h.g0)).trans h.g0, (hb.cell (p := ⟨w.heap.size + 1, 1, none⟩) (World.block_lt_of_cell? wr _ h.g1)).trans h.g1, h.rf.below hb, h.rg.below hb⟩
theorem Tw.new {w : World} {n : Int} {s : Value} {css : List (List Int)} {m : Int} {t : Value} {dss : List (List Int)} (hr : Rds w s css) (hg : Rds w t dss) : Tw w n s css m t dss ((w.alloc (.cells #[.int .i64 n, s] 24)).alloc (.cells #[.int .i64 m, t] 24)) := by
  have A0 := (Bx.new (n := n) hr 24).on (below_box _ (.cells #[.int .i64 m, t] 24))
  have A1 := Bx.new (n := m) (hg.below (below_box w (.cells #[.int .i64 n, s] 24))) 24
  have d0 := A1.c0
  have d1 := A1.c1
  rw [World.size_alloc] at d0 d1
  exact ⟨A0.bel, A0.c0, A0.c1, d0, d1, A0.rd, A1.rd⟩

set_option maxHeartbeats 6400000 in
theorem walk (n : Int) (s : Value) (css : List (List Int)) (m : Int) (t : Value) (dss : List (List Int)) (w : World) (hr : Rds w s css) (hr2 : Rds w t dss) (hsum : (css.length + dss.length) * 24 ≤ 140737488351232) :
    Calls Try.prog 4 #[.agg #[.int .i64 n, s], .agg #[.int .i64 m, t]] w fun e w' => e = .returned (.bool true) ∧ Below w.heap.size w w' := by
  have U24 : Hid ((jnF n css m dss).2.1.length * 24 ≤ 140737488351232) := jn24 hsum n m
  have U8 : Hid (∀ z ∈ (jnF n css m dss).2.1, z.length * 8 ≤ 140737488351232) := jn8 (rds_each hr) (rds_each hr2) n m
  have HX : Hid (Tw w n s css m t dss ((w.alloc (.cells #[.int .i64 n, s] 24)).alloc (.cells #[.int .i64 m, t] 24))) := Tw.new hr hr2
  have HSum : Hid ((css.length + dss.length) * 24 ≤ 140737488351232) := hsum
  clear hr hr2 hsum
  go_enter Try.func4, Try.ntmps4
  go_wp2_with fail
  generalize (w.alloc (.cells #[.int .i64 n, s] 24)).alloc (.cells #[.int .i64 m, t] 24) = W0 at *
  refine (small_any W0).mono ?_
  rintro e w0 ⟨s0, rfl, rs0, bel0⟩
  have HX0 : Hid (Tw w n s css m t dss w0) := HX.out.on bel0
  have HS0 : Hid (Rds w0 s0 smallF) := rs0
  clear HX bel0 rs0
  go_wp2_with fail
  refine (small_any w0).mono ?_
  rintro e w1 ⟨s1, rfl, rs1, bel1⟩
  have HX1 : Hid (Tw w n s css m t dss w1) := HX0.out.on bel1
  have HS1 : Hid (Rds w1 s1 smallF) := rs1
  have HS01 : Hid (Rds w1 s0 smallF) := HS0.out.below bel1
  clear HX0 bel1 rs1 HS0
  go_wp2_with fail
  refine (cnfJoin_any 2 s0 smallF 2 s1 smallF w1 HS01.out HS1.out (by decide)).mono ?_
  rw [jn_small]
  rintro e w2 ⟨s2, rfl, own2, bel2⟩
  obtain ⟨a2, c2, hs2⟩ := ownf_form own2
  subst hs2
  have HX2 : Hid (Tw w n s css m t dss w2) := HX1.out.on bel2
  clear HX1 bel2 HS1 HS01 own2
  generalize (jnF 2 smallF 2 smallF).2.1.length = q2 at *
  have HX3 : Hid (Tw w n s css m t dss (w2.alloc (.cells #[.int .i64 2, .slice a2 q2 c2] 24))) := HX2.out.on (below_box _ _)
  have c0 := HX3.out.f0
  have c1 := HX3.out.f1
  have c2' := HX3.out.g0
  have c3 := HX3.out.g1
  clear HX2
  go_wp2_with fail
  generalize w2.alloc (.cells #[.int .i64 2, .slice a2 q2 c2] 24) = w3 at *
  refine (cnfJoin_any n s css m t dss w3 HX3.out.rf HX3.out.rg HSum.out).mono ?_
  rintro e w4 ⟨s4, rfl, own4, bel4⟩
  obtain ⟨a4, c4, hs4⟩ := ownf_form own4
  subst hs4
  have HX4 : Hid (Tw w n s css m t dss w4) := HX3.out.on bel4
  have HO4 : Hid (Rds w4 (.slice a4 (jnF n css m dss).2.1.length c4) (jnF n css m dss).2.1) := own4.rds U24.out U8.out
  clear HX3 bel4 own4 c0 c1 c2' c3
  generalize hun : jnF n css m dss = un at *
  obtain ⟨q, ucs, er⟩ := un
  simp only at *
  have HX5 : Hid (Tw w n s css m t dss (w4.alloc (.cells #[.int .i64 q, .slice a4 ucs.length c4] 24))) := HX4.out.on (below_box _ _)
  have HB5 : Hid (Bx w4 q (.slice a4 ucs.length c4) ucs (w4.alloc (.cells #[.int .i64 q, .slice a4 ucs.length c4] 24))) := Bx.new HO4.out _
  have c0 := HX5.out.f0
  have c1 := HX5.out.f1
  have c2' := HX5.out.g0
  have c3 := HX5.out.g1
  clear HX4 HO4
  go_wp2_with fail
  generalize w4.alloc (.cells #[.int .i64 q, .slice a4 ucs.length c4] 24) = w5 at *
  refine (rJoinF_any n s css m t dss w5 HX5.out.rf HX5.out.rg HSum.out).mono ?_
  rw [hun]
  rintro e w6 ⟨s6, rfl, own6, bel6⟩
  obtain ⟨a6, c6, hs6⟩ := ownf_form own6
  subst hs6
  have HX6 : Hid (Tw w n s css m t dss w6) := HX5.out.on bel6
  have HB6 : Hid (Bx w4 q (.slice a4 ucs.length c4) ucs w6) := HB5.out.on bel6
  have HO6 : Hid (Rds w6 (.slice a6 ucs.length c6) ucs) := own6.rds U24.out U8.out
  clear HX5 HB5 bel6 own6 c0 c1 c2' c3
  have HX7 : Hid (Tw w n s css m t dss (w6.alloc (.cells #[.int .i64 q, .slice a6 ucs.length c6] 24))) := HX6.out.on (below_box _ _)
  have HB7 : Hid (Bx w4 q (.slice a4 ucs.length c4) ucs (w6.alloc (.cells #[.int .i64 q, .slice a6 ucs.length c6] 24))) := HB6.out.on (below_box _ _)
  have HC7 : Hid (Bx w6 q (.slice a6 ucs.length c6) ucs (w6.alloc (.cells #[.int .i64 q, .slice a6 ucs.length c6] 24))) := Bx.new HO6.out _
  have c0 := HB7.out.c0
  have c1 := HB7.out.c1
  clear HX6 HB6 HO6
  clear hun
  go_wp2_with fail
  generalize w6.alloc (.cells #[.int .i64 q, .slice a6 ucs.length c6] 24) = w7 at *
  refine (sameFormula_self q _ _ ucs w7 HB7.out.rd HC7.out.rd).mono ?_
  rintro e w8 ⟨rfl, bel8⟩
  have HX8 : Hid (Tw w n s css m t dss w8) := HX7.out.on bel8
  clear c0 c1
  go_wp2
  go_ret
  exact ⟨rfl, HX8.out.bel⟩

end Go.Proofs.Ytefjpcleknchlaa.cnfJoins
