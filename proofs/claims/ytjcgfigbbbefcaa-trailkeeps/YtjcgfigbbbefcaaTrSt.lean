/-
  trail: one call of both trails, held against one another.
  KEEP: set on app at below new trans refl start ap kept rd rds mono
-/
import Derived.Test.YtjcgfigbbbefcaaTrJ
import Derived.Test.YtjcgfigbbbefcaaTrailUndoes
set_option linter.unusedSimpArgs false
set_option linter.unusedVariables false
namespace Go.Proofs.Ytjcgfigbbbefcaa
open Go Go.RowKit

structure Pq (W : World) (x : Nat) (s : Sl) (y : Nat) (u : Value) (n : Nat) (Rx Ry : List Pl) : Prop where
  tr : Tr W x s n Rx
  rf : Rf W y u n Ry
  ap : ∀ k, s.own x k → ¬ rown y u k
def prP (x : Nat) (s : Sl) (y : Nat) (u : Value) (k : Nat) : Prop := s.own x k ∨ rown y u k
section
variable {W W' : World} {x y : Nat} {s s' : Sl} {u u' : Value} {n : Nat} {Rx Ry R' : List Pl}
theorem Pq.below (h : Pq W x s y u n Rx Ry) (hb : Below W.heap.size W W') : Pq W' x s y u n Rx Ry := ⟨h.tr.below hb, h.rf.below hb, h.ap⟩
theorem Pq.kept (h : Pq W x s y u n Rx Ry) (hk : ∀ k, prP x s y u k → W'.heap[k]? = W.heap[k]?) : Pq W' x s y u n Rx Ry := ⟨h.tr.kept fun k e => hk k (.inl e), h.rf.kept fun k e => hk k (.inr e), h.ap⟩
theorem Pq.lt (h : Pq W x s y u n Rx Ry) : ∀ k, prP x s y u k → k < W.heap.size := by
  rintro k (hk | hk)
  · exact h.tr.q.lt k hk
  · exact h.rf.lt k hk
theorem Pq.goX (h : Pq W x s y u n Rx Ry) (ht : Tr W' x s' n R') (hm : Mv W x s W' s') : Pq W' x s' y u n R' Ry ∧ Mg W (prP x s y u) W' (prP x s' y u) := by
  refine ⟨⟨ht, h.rf.kept fun k hk => hm.block k (h.rf.lt k hk) (fun h1 => h.ap k h1 hk), fun k h1 h2 => ?_⟩, ⟨hm.os, hm.tape, hm.output, hm.size, fun k hk h1 => hm.block k hk (fun h2 => h1 (.inl h2)), ?_⟩⟩
  · rcases hm.new k h1 with h3 | h3
    · exact h.ap k h3 h2
    · have := h.rf.lt k h2; omega
  · rintro k (h1 | h1)
    · rcases hm.new k h1 with h3 | h3
      · exact .inl (.inl h3)
      · exact .inr h3
    · exact .inl (.inr h1)
theorem Pq.goY (h : Pq W x s y u n Rx Ry) (ht : Rf W' y u' n R') (hm : Mg W (rown y u) W' (rown y u')) : Pq W' x s y u' n Rx R' ∧ Mg W (prP x s y u) W' (prP x s y u') := by
  refine ⟨⟨h.tr.kept fun k hk => hm.block k (h.tr.q.lt k hk) (fun h1 => h.ap k hk h1), ht, fun k h1 h2 => ?_⟩, ⟨hm.os, hm.tape, hm.output, hm.size, fun k hk h1 => hm.block k hk (fun h2 => h1 (.inr h2)), ?_⟩⟩
  · rcases hm.new k h2 with h3 | h3
    · exact h.ap k h1 h3
    · have := h.tr.q.lt k h1; omega
  · rintro k (h1 | h1)
    · exact .inl (.inl h1)
    · rcases hm.new k h1 with h3 | h3
      · exact .inl (.inr h3)
      · exact .inr h3
end
def Bx5 (W : World) (D : Nat) (t : TypeId) (x0 x1 x2 x3 x4 : Value) : Prop := W.heap[D]? = some (.cells #[x0, x1, x2, x3, x4] t (0, 0))
theorem Bx5.lt {W : World} {D : Nat} {t : TypeId} {x0 x1 x2 x3 x4 : Value} (h : Bx5 W D t x0 x1 x2 x3 x4) : D < W.heap.size := (Array.getElem?_eq_some_iff.1 h).1
theorem Bx5.c {W : World} {D : Nat} {t : TypeId} {x0 x1 x2 x3 x4 : Value} (h : Bx5 W D t x0 x1 x2 x3 x4) : W.cell? ⟨D, 1, none⟩ = some x1 ∧ W.cell? ⟨D, 2, none⟩ = some x2 ∧ W.cell? ⟨D, 3, none⟩ = some x3 ∧ W.cell? ⟨D, 4, none⟩ = some x4 := by simp [World.cell?, show W.heap[D]? = _ from h]
/-- what a step leaves behind -/
def StP (w : World) (x : Nat) (s : Sl) (y : Nat) (u : Value) (n : Nat) (e : Ending) (w' : World) : Prop := e = .returned (.bool true) ∧ ∃ s' u' R', Pq w' x s' y u' n R' R' ∧ Mg w (prP x s y u) w' (prP x s' y u')

theorem whole_any (x : Nat) (s : Sl) (y : Nat) (u : Value) (n : Nat) (R : List Pl) (w : World) (h : Pq w x s y u n R R) :
    Calls Try.prog 13 #[.pointer (some ⟨x, 0, none⟩), .pointer (some ⟨y, 0, none⟩)] w fun e w' => e = .returned (.bool true) ∧ Below w.heap.size w w' := by
  have HP : Hid (Pq w x s y u n R R) := h
  have h8 : (R.map Pl.lit).length * 8 ≤ 140737488351232 := by have := h.tr.ok.len; have := h.tr.n; simp; omega
  have h9 : (mks R).length * 8 ≤ 140737488351232 := by have := h.tr.ok.len; have := h.tr.n; have := now_le R; rw [mks_len]; omega
  have H8 : Hid (_ ∧ _) := ⟨h8, h9⟩
  clear h h8 h9
  go_enter Try.func13, Try.ntmps13
  go_wp2_with fail
  refine (trLits_any x s n R w HP.out.tr).mono ?_
  rintro e w1 ⟨u1, rfl, own1, bel1⟩
  have P1 : Hid (Pq w1 x s y u n R R) := HP.out.below bel1
  have O1 : Hid (Own w.heap.size w1 u1 (R.map Pl.lit)) := own1
  have B1 : Hid (Below w.heap.size w w1) := bel1
  clear own1 bel1
  go_wp2_with fail
  refine (rLits_any y u n R w1 P1.out.rf).mono ?_
  rintro e w2 ⟨u2, rfl, own2, bel2⟩
  have P2 : Hid (Pq w2 x s y u n R R) := P1.out.below bel2
  have C2 : Hid (Calls Try.prog 23 #[u1, u2] w2 fun e w' => e = .returned (.bool true) ∧ Below w2.heap.size w2 w') := sameSelf_any u1 u2 (R.map Pl.lit) w2 ((O1.out.below bel2).rd H8.out.1) (own2.rd H8.out.1)
  have B2 : Hid (Below w.heap.size w w2) := Below.step B1.out bel2
  clear own2 bel2 P1 O1 B1
  go_wp2_with fail
  refine C2.out.mono ?_
  rintro e w3 ⟨rfl, bel3⟩
  have P3 : Hid (Pq w3 x s y u n R R) := P2.out.below bel3
  have B3 : Hid (Below w.heap.size w w3) := Below.step B2.out bel3
  clear bel3 P2 B2 C2
  go_wp2_with fail
  refine (trMarks_any x s n R w3 P3.out.tr).mono ?_
  rintro e w4 ⟨u4, rfl, own4, bel4⟩
  have P4 : Hid (Pq w4 x s y u n R R) := P3.out.below bel4
  have O4 : Hid (Own w3.heap.size w4 u4 (mks R)) := own4
  have B4 : Hid (Below w.heap.size w w4) := Below.step B3.out bel4
  clear own4 bel4 P3 B3
  go_wp2_with fail
  refine (rMarks_any y u n R w4 P4.out.rf).mono ?_
  rintro e w5 ⟨u5, rfl, own5, bel5⟩
  have P5 : Hid (Pq w5 x s y u n R R) := P4.out.below bel5
  have C5 : Hid (Calls Try.prog 23 #[u4, u5] w5 fun e w' => e = .returned (.bool true) ∧ Below w5.heap.size w5 w') := sameSelf_any u4 u5 (mks R) w5 ((O4.out.below bel5).rd H8.out.2) (own5.rd H8.out.2)
  have B5 : Hid (Below w.heap.size w w5) := Below.step B4.out bel5
  clear own5 bel5 P4 O4 B4
  go_wp2_with fail
  refine C5.out.mono ?_
  rintro e w6 ⟨rfl, bel6⟩
  have P6 : Hid (Pq w6 x s y u n R R) := P5.out.below bel6
  have B6 : Hid (Below w.heap.size w w6) := Below.step B5.out bel6
  clear bel6 P5 B5 C5
  go_wp2_with fail
  refine (trLevel_tr x s n R w6 P6.out.tr).mono ?_
  rintro e w7 ⟨rfl, rfl⟩
  go_wp2_with fail
  refine (rLevel_any y u n R w7 P6.out.rf).mono ?_
  rintro e w8 ⟨rfl, rfl⟩
  go_wp2
  go_ret
  exact ⟨by simp, B6.out⟩

set_option maxRecDepth 100000 in
set_option maxHeartbeats 12800000 in
theorem step_any (x : Nat) (s : Sl) (y : Nat) (u : Value) (n : Nat) (R : List Pl) (on kd nn mm : Int) (vc : Value) (zs : List Int) (w : World) (h : Pq w x s y u n R R) (hz : Rd w vc zs) :
    Calls Try.prog 12 #[.pointer (some ⟨x, 0, none⟩), .pointer (some ⟨y, 0, none⟩), .agg #[.int .i64 on, .int .i64 kd, .int .i64 nn, .int .i64 mm, vc]] w (StP w x s y u n) := by
  have hb0 := below_box w (.cells #[.int .i64 on, .int .i64 kd, .int .i64 nn, .int .i64 mm, vc] 38)
  have HP : Hid (Pq (w.alloc (.cells #[.int .i64 on, .int .i64 kd, .int .i64 nn, .int .i64 mm, vc] 38)) x s y u n R R) := h.below hb0
  have HM0 : Hid (Mg w (prP x s y u) (w.alloc (.cells #[.int .i64 on, .int .i64 kd, .int .i64 nn, .int .i64 mm, vc] 38)) (prP x s y u)) := Mg.below hb0
  have HZ : Hid (Rd (w.alloc (.cells #[.int .i64 on, .int .i64 kd, .int .i64 nn, .int .i64 mm, vc] 38)) vc zs) := hz.below hb0
  have HD : Hid (∀ k, prP x s y u k → k < w.heap.size) := h.lt
  have HBx : Hid (Bx5 (w.alloc (.cells #[.int .i64 on, .int .i64 kd, .int .i64 nn, .int .i64 mm, vc] 38)) w.heap.size 38 (.int .i64 on) (.int .i64 kd) (.int .i64 nn) (.int .i64 mm) vc) := World.alloc_heap_new w _
  have hp := pkZ_range kd (show (0 : Int) < 10 by decide)
  have HFin : Hid (∀ (W' : World) (s' : Sl) (u' : Value) (R' : List Pl), Pq W' x s' y u' n R' R' → Mg w (prP x s y u) W' (prP x s' y u') → StP w x s y u n (.returned (.bool true)) W') := fun W' s' u' R' h1 h2 => ⟨rfl, s', u', R', h1, h2⟩
  obtain ⟨az, cz, rfl, -⟩ := rd_at hz
  have c1 := HBx.out.c.1
  have c2 := HBx.out.c.2.1
  have c3 := HBx.out.c.2.2.1
  have c4 := HBx.out.c.2.2.2
  have hR8 : (R.map Pl.lit).length * 8 ≤ 140737488351232 := by have := h.tr.ok.len; have := h.tr.n; simp; omega
  have hR9 : (mks R).length * 8 ≤ 140737488351232 := by have := h.tr.ok.len; have := h.tr.n; have := now_le R; rw [mks_len]; omega
  have hR10 : ∀ k, (backO R k).length * 8 ≤ 140737488351232 := fun k => by
    have h1 := h.tr.ok.len
    have h2 := h.tr.n
    unfold backO
    split
    · rw [List.length_reverse, List.length_map, List.length_drop]; omega
    · simp
  have H8 : Hid ((R.map Pl.lit).length * 8 ≤ 140737488351232 ∧ (mks R).length * 8 ≤ 140737488351232 ∧ ∀ k, (backO R k).length * 8 ≤ 140737488351232) := ⟨hR8, hR9, hR10⟩
  clear h hz hb0 hR8 hR9 hR10
  go_enter Try.func12, Try.ntmps12
  go_wp2_with fail
  generalize hW0 : w.alloc (.cells #[.int .i64 on, .int .i64 kd, .int .i64 nn, .int .i64 mm, .slice az zs.length cz] 38) = W0 at *
  clear hW0
  have HS : Hid (∀ W', Below W0.heap.size W0 W' → W'.cell? ⟨w.heap.size, 2, none⟩ = some (.int .i64 nn) ∧ W'.cell? ⟨w.heap.size, 3, none⟩ = some (.int .i64 mm)) := fun W' h => ⟨(h.cell (p := ⟨w.heap.size, 2, none⟩) HBx.out.lt).trans c2, (h.cell (p := ⟨w.heap.size, 3, none⟩) HBx.out.lt).trans c3⟩
  have HS2 : Hid (∀ W' P', Mg W0 (prP x s y u) W' P' → W'.cell? ⟨w.heap.size, 2, none⟩ = some (.int .i64 nn) ∧ W'.cell? ⟨w.heap.size, 3, none⟩ = some (.int .i64 mm)) := fun W' P' h => by
    have h1 : Bx5 W' w.heap.size 38 (.int .i64 on) (.int .i64 kd) (.int .i64 nn) (.int .i64 mm) (.slice az zs.length cz) := (h.block _ HBx.out.lt (fun h2 => by have := HD.out _ h2; omega)).trans HBx.out
    exact ⟨h1.c.2.1, h1.c.2.2.1⟩
  refine (pick_any _ 10 W0 (by decide) (by decide)).mono ?_
  rintro e w1 ⟨rfl, rfl⟩
  clear HBx HD
  generalize pkZ kd 10 = p at *
  rcases (show p = 0 ∨ p = 1 ∨ p = 2 ∨ p = 3 ∨ p = 4 ∨ p = 5 ∨ p = 6 ∨ p = 7 ∨ p = 8 ∨ p = 9 by omega) with rfl | rfl | rfl | rfl | rfl | rfl | rfl | rfl | rfl | rfl
  · go_upto_region 3 with fail
    go_region_held (fun W' => W'.cell? ⟨w.heap.size, 2, none⟩ = some (.int .i64 nn) ∧ W'.cell? ⟨w.heap.size, 3, none⟩ = some (.int .i64 mm)) (first | exact HS.out _ (Below.refl _ _).drew | exact HS2.out _ _ O3.out.2 | exact HS2.out _ _ O4.out.2) (first
      | (have h3 := O3; clear h3; go_at_call 30; refine (rDecide_any y u n R nn w3 O3.out.1.rf).mono ?_; rintro e w4 ⟨rfl, u4, ht4, hm4⟩; have O4 : Hid (Pq w4 x s3 y u4 n (decF n R nn) (decF n R nn) ∧ Mg w1 (prP x s y u) w4 (prP x s3 y u4)) := by { obtain ⟨p1, m1⟩ := O3.out.1.goY ht4 hm4; exact ⟨p1, O3.out.2.trans m1⟩ }; clear ht4 hm4)
      | (go_at_call 22; refine (trDecide_any x s n R nn _ (HP.out.tr.below (Below.refl _ _).drew)).mono ?_; rintro e w3 ⟨rfl, s3, ht3, hm3⟩; have O3 : Hid (Pq w3 x s3 y u n (decF n R nn) R ∧ Mg w1 (prP x s y u) w3 (prP x s3 y u)) := by { obtain ⟨p1, m1⟩ := (HP.out.below (Below.refl _ _).drew).goX ht3 hm3; exact ⟨p1, (Mg.below (Below.refl _ _).drew).trans m1⟩ }; clear ht3 hm3))
    all_goals
      go_wp2
      go_ret
      have HE : Hid (StP w x s y u n (.returned (.bool true)) _) := HFin.out _ _ _ _ O4.out.1 (HM0.out.trans O4.out.2)
      simpa using HE.out
  · go_upto_region 5 with fail
    go_region_held (fun W' => W'.cell? ⟨w.heap.size, 2, none⟩ = some (.int .i64 nn) ∧ W'.cell? ⟨w.heap.size, 3, none⟩ = some (.int .i64 mm)) (first | exact HS.out _ (Below.refl _ _).drew | exact HS2.out _ _ O3.out.2 | exact HS2.out _ _ O4.out.2) (first
      | (have h3 := O3; clear h3; go_at_call 31; refine (rImply_any y u n R nn mm w3 O3.out.1.rf).mono ?_; rintro e w4 ⟨rfl, u4, ht4, hm4⟩; have O4 : Hid (Pq w4 x s3 y u4 n (impF n R nn mm) (impF n R nn mm) ∧ Mg w1 (prP x s y u) w4 (prP x s3 y u4)) := by { obtain ⟨p1, m1⟩ := O3.out.1.goY ht4 hm4; exact ⟨p1, O3.out.2.trans m1⟩ }; clear ht4 hm4)
      | (go_at_call 29; refine (trImply_any x s n R nn mm _ (HP.out.tr.below (Below.refl _ _).drew)).mono ?_; rintro e w3 ⟨rfl, s3, ht3, hm3⟩; have O3 : Hid (Pq w3 x s3 y u n (impF n R nn mm) R ∧ Mg w1 (prP x s y u) w3 (prP x s3 y u)) := by { obtain ⟨p1, m1⟩ := (HP.out.below (Below.refl _ _).drew).goX ht3 hm3; exact ⟨p1, (Mg.below (Below.refl _ _).drew).trans m1⟩ }; clear ht3 hm3))
    all_goals
      go_wp2
      go_ret
      have HE : Hid (StP w x s y u n (.returned (.bool true)) _) := HFin.out _ _ _ _ O4.out.1 (HM0.out.trans O4.out.2)
      simpa using HE.out
  · go_wp2_with fail
    refine (trBack_any x s n R nn w1 HP.out.tr).mono ?_
    rintro e w3 ⟨u3, s3, rfl, own3, ht3, hm3, _⟩
    obtain ⟨p3, m3⟩ := HP.out.goX ht3 hm3
    have O3 : Hid (Pq w3 x s3 y u n (backF R nn) R ∧ Mg w1 (prP x s y u) w3 (prP x s3 y u)) := ⟨p3, m3⟩
    have HO3 : Hid (Own w1.heap.size w3 u3 (backO R nn)) := own3
    have d2 := (HS2.out _ _ m3).1
    have HLt : Hid (∀ k, rown y u k → k < w1.heap.size) := HP.out.rf.lt
    clear own3 ht3 hm3 p3 m3 c1 c2 c3 c4
    go_wp2_with fail
    refine (rBack_any y u n R nn w3 O3.out.1.rf).mono ?_
    rintro e w4 ⟨v4, u4, rfl, own4, ht4, hm4⟩
    obtain ⟨p4, m4⟩ := O3.out.1.goY ht4 hm4
    have O4 : Hid (Pq w4 x s3 y u4 n (backF R nn) (backF R nn) ∧ Mg w1 (prP x s y u) w4 (prP x s3 y u4)) := ⟨p4, O3.out.2.trans m4⟩
    have C4 : Hid (Calls Try.prog 23 #[u3, v4] w4 fun e w' => e = .returned (.bool true) ∧ Below w4.heap.size w4 w') := sameSelf_any u3 v4 (backO R nn) w4 (Own.rd (base := w1.heap.size) (row_kept HO3.out fun k hk => hm4.block k ((HO3.out.lt k hk.symm).2) (fun h1 => by
      have h2 := (HO3.out.lt k hk.symm).1
      have h3 := HLt.out k h1
      omega)) (H8.out.2.2 nn)) (own4.rd (H8.out.2.2 nn))
    clear own4 ht4 hm4 p4 m4 O3 HO3
    go_wp2_with fail
    refine C4.out.mono ?_
    rintro e w5 ⟨rfl, bel5⟩
    have HE : Hid (StP w x s y u n (.returned (.bool true)) w5) := HFin.out _ _ _ _ (O4.out.1.below bel5) ((HM0.out.trans O4.out.2).trans (Mg.below bel5))
    clear bel5
    go_wp2
    go_ret
    exact HE.out
  · go_upto_region 11 with fail
    go_region_held (fun W' => W'.cell? ⟨w.heap.size, 2, none⟩ = some (.int .i64 nn) ∧ W'.cell? ⟨w.heap.size, 3, none⟩ = some (.int .i64 mm)) (first | exact HS.out _ (Below.refl _ _).drew | exact HS2.out _ _ O3.out.2 | exact HS2.out _ _ O4.out.2) (first
      | (have h3 := O3; clear h3; go_at_call 37; refine (rValue_any y u n R nn _ O3.out.1.rf).mono ?_; intro e w4 hh; rw [hh.1, hh.2]; clear hh e w4; have O4 : Hid (Pq w1.drew x s y u n R R ∧ Mg w1 (prP x s y u) w1.drew (prP x s y u)) := O3.out; dsimp only)
      | (go_at_call 18; refine (trValue_any x s n R nn _ (HP.out.tr.below (Below.refl _ _).drew)).mono ?_; intro e w3 hh; rw [hh.1, hh.2]; clear hh e w3; have O3 : Hid (Pq w1.drew x s y u n R R ∧ Mg w1 (prP x s y u) w1.drew (prP x s y u)) := ⟨HP.out.below (Below.refl _ _).drew, Mg.below (Below.refl _ _).drew⟩; dsimp only))
    all_goals
      go_wp2
      go_ret
      have HE : Hid (StP w x s y u n (.returned (.bool true)) _) := HFin.out _ _ _ _ O4.out.1 (HM0.out.trans O4.out.2)
      simpa using HE.out
  · go_upto_region 13 with fail
    go_region_held (fun W' => W'.cell? ⟨w.heap.size, 2, none⟩ = some (.int .i64 nn) ∧ W'.cell? ⟨w.heap.size, 3, none⟩ = some (.int .i64 mm)) (first | exact HS.out _ (Below.refl _ _).drew | exact HS2.out _ _ O3.out.2 | exact HS2.out _ _ O4.out.2) (first
      | (have h3 := O3; clear h3; go_at_call 38; refine (rLevelOf_any y u n R nn _ O3.out.1.rf).mono ?_; intro e w4 hh; rw [hh.1, hh.2]; clear hh e w4; have O4 : Hid (Pq w1.drew x s y u n R R ∧ Mg w1 (prP x s y u) w1.drew (prP x s y u)) := O3.out; dsimp only)
      | (go_at_call 19; refine (trLevelOf_any x s n R nn _ (HP.out.tr.below (Below.refl _ _).drew)).mono ?_; intro e w3 hh; rw [hh.1, hh.2]; clear hh e w3; have O3 : Hid (Pq w1.drew x s y u n R R ∧ Mg w1 (prP x s y u) w1.drew (prP x s y u)) := ⟨HP.out.below (Below.refl _ _).drew, Mg.below (Below.refl _ _).drew⟩; dsimp only))
    all_goals
      go_wp2
      go_ret
      have HE : Hid (StP w x s y u n (.returned (.bool true)) _) := HFin.out _ _ _ _ O4.out.1 (HM0.out.trans O4.out.2)
      simpa using HE.out
  · go_upto_region 15 with fail
    go_region_held (fun W' => W'.cell? ⟨w.heap.size, 2, none⟩ = some (.int .i64 nn) ∧ W'.cell? ⟨w.heap.size, 3, none⟩ = some (.int .i64 mm)) (first | exact HS.out _ (Below.refl _ _).drew | exact HS2.out _ _ O3.out.2 | exact HS2.out _ _ O4.out.2) (first
      | (have h3 := O3; clear h3; go_at_call 39; refine (rReason_any y u n R nn w3 O3.out.1.rf).mono ?_; intro e w4 hh; rw [hh.1, hh.2]; clear hh e w4; have O4 : Hid (Pq w3 x s y u n R R ∧ Mg w1 (prP x s y u) w3 (prP x s y u)) := O3.out; dsimp only)
      | (go_at_call 20; refine (trReason_any x s n R nn _ (HP.out.tr.below (Below.refl _ _).drew)).mono ?_; rintro e w3 ⟨rfl, bel3⟩; have O3 : Hid (Pq w3 x s y u n R R ∧ Mg w1 (prP x s y u) w3 (prP x s y u)) := ⟨(HP.out.below (Below.refl _ _).drew).below bel3, (Mg.below (Below.refl _ _).drew).trans (Mg.below bel3)⟩; clear bel3))
    all_goals
      go_wp2
      go_ret
      have HE : Hid (StP w x s y u n (.returned (.bool true)) _) := HFin.out _ _ _ _ O4.out.1 (HM0.out.trans O4.out.2)
      simpa using HE.out
  · go_wp2_with fail
    refine (trLook_any x s n R _ zs w1 HP.out.tr HZ.out).mono ?_
    rintro e w3 ⟨rfl, rfl⟩
    go_wp2_with fail
    refine (rLook_any y u n R _ zs w3 HP.out.rf HZ.out).mono ?_
    rintro e w4 ⟨rfl, bel4⟩
    have HE : Hid (StP w x s y u n (.returned (.bool true)) w4) := HFin.out _ _ _ _ (HP.out.below bel4) (HM0.out.trans (Mg.below bel4))
    clear bel4
    generalize (lookF n R zs).1 = l1 at *
    generalize (lookF n R zs).2 = l2 at *
    go_wp2
    go_ret
    simpa using HE.out
  · go_wp2_with fail
    refine (trLits_any x s n R w1 HP.out.tr).mono ?_
    rintro e w3 ⟨u3, rfl, own3, bel3⟩
    have P3 : Hid (Pq w3 x s y u n R R) := HP.out.below bel3
    have O3 : Hid (Own w1.heap.size w3 u3 (R.map Pl.lit)) := own3
    have M3 : Hid (Mg w (prP x s y u) w3 (prP x s y u)) := HM0.out.trans (Mg.below bel3)
    clear own3 bel3
    go_wp2_with fail
    refine (rLits_any y u n R w3 P3.out.rf).mono ?_
    rintro e w4 ⟨u4, rfl, own4, bel4⟩
    have P4 : Hid (Pq w4 x s y u n R R) := P3.out.below bel4
    have M4 : Hid (Mg w (prP x s y u) w4 (prP x s y u)) := M3.out.trans (Mg.below bel4)
    have C4 : Hid (Calls Try.prog 23 #[u3, u4] w4 fun e w' => e = .returned (.bool true) ∧ Below w4.heap.size w4 w') := sameSelf_any u3 u4 (R.map Pl.lit) w4 ((O3.out.below bel4).rd H8.out.1) (own4.rd H8.out.1)
    clear own4 bel4 P3 M3 O3
    go_wp2_with fail
    refine C4.out.mono ?_
    rintro e w5 ⟨rfl, bel5⟩
    have HE : Hid (StP w x s y u n (.returned (.bool true)) w5) := HFin.out _ _ _ _ (P4.out.below bel5) (M4.out.trans (Mg.below bel5))
    clear bel5
    go_wp2
    go_ret
    exact HE.out
  · go_wp2_with fail
    refine (trMarks_any x s n R w1 HP.out.tr).mono ?_
    rintro e w3 ⟨u3, rfl, own3, bel3⟩
    have P3 : Hid (Pq w3 x s y u n R R) := HP.out.below bel3
    have O3 : Hid (Own w1.heap.size w3 u3 (mks R)) := own3
    have M3 : Hid (Mg w (prP x s y u) w3 (prP x s y u)) := HM0.out.trans (Mg.below bel3)
    clear own3 bel3
    go_wp2_with fail
    refine (rMarks_any y u n R w3 P3.out.rf).mono ?_
    rintro e w4 ⟨u4, rfl, own4, bel4⟩
    have P4 : Hid (Pq w4 x s y u n R R) := P3.out.below bel4
    have M4 : Hid (Mg w (prP x s y u) w4 (prP x s y u)) := M3.out.trans (Mg.below bel4)
    have C4 : Hid (Calls Try.prog 23 #[u3, u4] w4 fun e w' => e = .returned (.bool true) ∧ Below w4.heap.size w4 w') := sameSelf_any u3 u4 (mks R) w4 ((O3.out.below bel4).rd H8.out.2.1) (own4.rd H8.out.2.1)
    clear own4 bel4 P3 M3 O3
    go_wp2_with fail
    refine C4.out.mono ?_
    rintro e w5 ⟨rfl, bel5⟩
    have HE : Hid (StP w x s y u n (.returned (.bool true)) w5) := HFin.out _ _ _ _ (P4.out.below bel5) (M4.out.trans (Mg.below bel5))
    clear bel5
    go_wp2
    go_ret
    exact HE.out
  · go_wp2_with fail
    refine (trLevel_tr x s n R w1 HP.out.tr).mono ?_
    rintro e w3 ⟨rfl, rfl⟩
    go_wp2_with fail
    refine (rLevel_any y u n R w3 HP.out.rf).mono ?_
    rintro e w4 ⟨rfl, rfl⟩
    have HE : Hid (StP w x s y u n (.returned (.bool true)) w4) := HFin.out _ _ _ _ HP.out HM0.out
    go_wp2
    go_ret
    simpa using HE.out
end Go.Proofs.Ytjcgfigbbbefcaa
