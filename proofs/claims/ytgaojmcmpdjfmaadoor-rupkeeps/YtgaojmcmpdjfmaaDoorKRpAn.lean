/-
  depotlaw08.answers, walked: what the four calls say, as one value.
  KEEP: below on new c0 c1 set
-/
import Derived.Test.YtgaojmcmpdjfmaaDoorKRpD
import Derived.Test.YtgaojmcmpdjfmaaDoorJRpF
set_option linter.unusedSimpArgs false
set_option linter.unusedVariables false
namespace Go.Proofs.YtgaojmcmpdjfmaaDoor
open Go Go.RowKit

/-- what the four calls say -/
noncomputable def anC (v : Int) (css : List (List Int)) (c : List Int) : Array Value := #[.bool (shp v css c && folB css c), .bool (shp v css c && safB css c), .bool (shB v css c && blkB css c), .int .i64 (kn8 v css c), .int .i64 (shE (shp v css c))]
theorem heap_set5 {W : World} {D : Nat} {cs : Array Value} {t : TypeId} (h : W.heap[D]? = some (.cells cs t (0, 0))) (j : Nat) (v : Value) : (W.setCell ⟨D, j, none⟩ v).heap[D]? = some (.cells (cs.setIfInBounds j v) t (0, 0)) := set_heap h j v
set_option maxRecDepth 100000 in
set_option maxHeartbeats 3200000 in
theorem answers_any (v : Int) (s vc : Value) (css : List (List Int)) (c : List Int) (w : World) (hr : Rds w s css) (hc : Rd w vc c) (hi : ∀ x ∈ c, i64 x) (hw : Few css) (hD : Deb w) :
    Calls Tryd.prog 7 #[.agg #[.int .i64 v, s], vc] w fun e w' => e = .returned (.agg (anC v css c)) ∧ Below w.heap.size w w' := by
  have HX : Hid (Bx w v s css (w.alloc (.cells #[.int .i64 v, s] 24))) := Bx.new hr _
  have HC : Hid (∀ W, Below w.heap.size w W → Rds W s css ∧ Rd W vc c ∧ Deb W) := fun W h => ⟨hr.below h, hc.below h, hD.below h⟩
  have HR : Hid ((∀ x ∈ c, i64 x) ∧ Few css) := ⟨hi, hw⟩
  have HT : Hid (∀ W, Below (w.alloc (.cells #[.int .i64 v, s] 24)).heap.size (w.alloc (.cells #[.int .i64 v, s] 24)) W → Below w.heap.size w W ∧ W.cell? ⟨w.heap.size, 0, none⟩ = some (.int .i64 v) ∧ W.cell? ⟨w.heap.size, 1, none⟩ = some s) := fun W h => ⟨Below.step HX.out.bel h, (HX.out.on h).c0, (HX.out.on h).c1⟩
  obtain ⟨r0, hr0⟩ : ∃ x, (shp v css c && folB css c) = x := ⟨_, rfl⟩
  obtain ⟨r1, hr1⟩ : ∃ x, (shp v css c && safB css c) = x := ⟨_, rfl⟩
  obtain ⟨r2, hr2⟩ : ∃ x, (shB v css c && blkB css c) = x := ⟨_, rfl⟩
  obtain ⟨r3, hr3⟩ : ∃ x, kn8 v css c = x := ⟨_, rfl⟩
  obtain ⟨r4, hr4⟩ : ∃ x, shE (shp v css c) = x := ⟨_, rfl⟩
  have HAn : Hid (anC v css c = #[.bool r0, .bool r1, .bool r2, .int .i64 r3, .int .i64 r4]) := by
    show anC v css c = _
    unfold anC
    rw [hr0, hr1, hr2, hr3, hr4]
  have H1 : Hid (∀ W, Below w.heap.size w W → Calls Tryd.prog 17 #[.agg #[.int .i64 v, s], vc] W fun e w' => e = .returned (.tuple #[.bool r0, .int .i64 r4]) ∧ Below W.heap.size W w') := fun W h => by
    have := follows_any v s vc css c W (HC.out W h).1 (HC.out W h).2.1 HR.out.1 HR.out.2 (HC.out W h).2.2
    rw [hr0, hr4] at this; exact this
  have H2 : Hid (∀ W, Below w.heap.size w W → Calls Tryd.prog 21 #[.agg #[.int .i64 v, s], vc] W fun e w' => e = .returned (.tuple #[.bool r1, .int .i64 r4]) ∧ Below W.heap.size W w') := fun W h => by
    have := safe_any v s vc css c W (HC.out W h).1 (HC.out W h).2.1 HR.out.1 HR.out.2 (HC.out W h).2.2
    rw [hr1, hr4] at this; exact this
  have H3 : Hid (∀ W, Below w.heap.size w W → Calls Tryd.prog 22 #[.agg #[.int .i64 v, s], vc] W fun e w' => e = .returned (.tuple #[.bool r2, .int .i64 r4]) ∧ Below W.heap.size W w') := fun W h => by
    have := blocked_any v s vc css c W (HC.out W h).1 (HC.out W h).2.1
    rw [hr2, show shBE (shB v css c) = r4 from hr4] at this; exact this
  have H4 : Hid (∀ W, Below w.heap.size w W → Calls Tryd.prog 19 #[.agg #[.int .i64 v, s], vc] W fun e w' => e = .returned (.tuple #[.int .i64 r3, .int .i64 r4]) ∧ Below W.heap.size W w') := fun W h => by
    have := kind_any v s vc css c W (HC.out W h).1 (HC.out W h).2.1 HR.out.1 HR.out.2 (HC.out W h).2.2
    rw [hr3, hr4] at this; exact this
  rw [HAn.out]
  have hb0 : Hid (Below (w.alloc (.cells #[.int .i64 v, s] 24)).heap.size (w.alloc (.cells #[.int .i64 v, s] 24)) ((w.alloc (.cells #[.int .i64 v, s] 24)).alloc (.cells #[.bool false, .bool false, .bool false, .int .i64 0, .int .i64 0] 33))) := below_box _ _
  have HB0 : Hid (((w.alloc (.cells #[.int .i64 v, s] 24)).alloc (.cells #[.bool false, .bool false, .bool false, .int .i64 0, .int .i64 0] 33)).heap[w.heap.size + 1]? = some (.cells #[.bool false, .bool false, .bool false, .int .i64 0, .int .i64 0] 33 (0, 0))) := by
    have := World.alloc_heap_new (w.alloc (.cells #[.int .i64 v, s] 24)) (.cells #[.bool false, .bool false, .bool false, .int .i64 0, .int .i64 0] 33 (0, 0))
    rw [World.size_alloc] at this
    exact this
  have c0 := (HT.out _ hb0.out).2.1
  have c1 := (HT.out _ hb0.out).2.2
  clear hr hc hi hw hD hr0 hr1 hr2 hr3 hr4 HAn HC HR HX
  go_enter Tryd.func7, Tryd.ntmps7
  go_wp2_with fail
  generalize (w.alloc (.cells #[.int .i64 v, s] 24)).alloc (.cells #[.bool false, .bool false, .bool false, .int .i64 0, .int .i64 0] 33) = W0 at *
  have HT2 : Hid (∀ W, Below W0.heap.size W0 W → Below w.heap.size w W ∧ W.cell? ⟨w.heap.size, 0, none⟩ = some (.int .i64 v) ∧ W.cell? ⟨w.heap.size, 1, none⟩ = some s) := fun W h => HT.out W (Below.step hb0.out h)
  clear c0 c1 hb0 HT
  refine Calls.mono (H1.out _ (HT2.out _ (Below.refl _ _)).1) ?_
  rintro e w1 ⟨rfl, b1⟩
  have B1 : Hid (Below W0.heap.size W0 w1) := b1
  have c0 := (HT2.out _ b1).2.1
  have c1 := (HT2.out _ b1).2.2
  clear b1 H1
  go_wp2_with fail
  refine Calls.mono (H2.out _ (HT2.out _ B1.out).1) ?_
  clear c0 c1
  rintro e w2 ⟨rfl, b2⟩
  have B2 : Hid (Below W0.heap.size W0 w2) := Below.step B1.out b2
  have c0 := (HT2.out _ B2.out).2.1
  have c1 := (HT2.out _ B2.out).2.2
  clear b2 H2 B1
  go_wp2_with fail
  refine Calls.mono (H3.out _ (HT2.out _ B2.out).1) ?_
  clear c0 c1
  rintro e w3 ⟨rfl, b3⟩
  have B3 : Hid (Below W0.heap.size W0 w3) := Below.step B2.out b3
  have c0 := (HT2.out _ B3.out).2.1
  have c1 := (HT2.out _ B3.out).2.2
  clear b3 H3 B2
  go_wp2_with fail
  refine Calls.mono (H4.out _ (HT2.out _ B3.out).1) ?_
  clear c0 c1
  rintro e w4 ⟨rfl, b4⟩
  have B4 : Hid (Below W0.heap.size W0 w4) := Below.step B3.out b4
  have HB4 : Hid (w4.heap[w.heap.size + 1]? = some (.cells #[.bool false, .bool false, .bool false, .int .i64 0, .int .i64 0] 33 (0, 0))) := (B4.out.block _ (Array.getElem?_eq_some_iff.1 HB0.out).1).trans HB0.out
  have HBe : Hid (Below w.heap.size w w4) := (HT2.out _ B4.out).1
  have q0 : w4.cell? ⟨w.heap.size + 1, 0, none⟩ = some (.bool false) := by simp [World.cell?, HB4.out]
  have q1 : w4.cell? ⟨w.heap.size + 1, 1, none⟩ = some (.bool false) := by simp [World.cell?, HB4.out]
  have q2 : w4.cell? ⟨w.heap.size + 1, 2, none⟩ = some (.bool false) := by simp [World.cell?, HB4.out]
  have q3 : w4.cell? ⟨w.heap.size + 1, 3, none⟩ = some (.int .i64 0) := by simp [World.cell?, HB4.out]
  have q4 : w4.cell? ⟨w.heap.size + 1, 4, none⟩ = some (.int .i64 0) := by simp [World.cell?, HB4.out]
  have z0 : ∀ j, w4.frozen? ⟨w.heap.size + 1, j, none⟩ = false := fun j => by simp [World.frozen?, HB4.out]
  clear b4 H4 B3 HB0 HT2 B4
  go_wp2
  have hb := heap_set5 (heap_set5 (heap_set5 (heap_set5 (heap_set5 HB4.out 0 (.bool r0)) 1 (.bool r1)) 2 (.bool r2)) 3 (.int .i64 r3)) 4 (.int .i64 r4)
  try simp only [Exit.inBlock, Exit.then]
  refine bodyPost_ret (results_cell_row rfl _ _ (w.heap.size + 1) 33 #[.bool r0, .bool r1, .bool r2, .int .i64 r3, .int .i64 r4] (0, 0) _ rfl hb Tryd.underlying33 rfl (by kernel_rfl)) rfl ?_
  exact ⟨rfl, below_set (below_set (below_set (below_set (below_set HBe.out (by omega) _ _) (by omega) _ _) (by omega) _ _) (by omega) _ _) (by omega) _ _⟩
end Go.Proofs.YtgaojmcmpdjfmaaDoor
