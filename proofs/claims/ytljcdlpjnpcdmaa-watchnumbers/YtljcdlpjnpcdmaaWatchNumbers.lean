/-
  WatchNumbers: Assume, Undo at one small formula; the walk.
  KEEP: set on app at below new trans refl start ap kept rd rds mono lt add none own nil put len pos setF setV putL putR other neV same_any
-/
import Derived.Test.YtljcdlpjnpcdmaaWnw
import Derived.Test.YtljcdlpjnpcdmaaSmall
set_option linter.unusedSimpArgs false
set_option linter.unusedVariables false
namespace Go.Proofs.Ytljcdlpjnpcdmaa
open Go Go.RowKit

theorem wAssumeTurn_any (b : Nat) (C Wt Bl R D : Value) (gone : Int) (cl : Bool) (w : World) (hx : BxW w b C Wt Bl R gone D 0 cl) :
    Calls Try.prog 7 #[.pointer (some ⟨b, 0, none⟩), .int .i64 2] w fun e w' => e = .returned (.int .i64 3) ∧ Below w.heap.size w w' := by
  have HH : Hid (Calls Try.prog 22 #[.pointer (some ⟨b, 0, none⟩), .int .i64 2] w fun e w' => e = .returned (.bool (fmd 2 && decide (varOf 2 ≤ 2))) ∧ Below w.heap.size w w') := wHas_any b 2 2 w (hx.cell 0 _ rfl)
  have HE : Hid ((fmd 2 && decide (varOf 2 ≤ 2)) = true) := by show _ = _; decide
  have HX : Hid (BxW w b C Wt Bl R gone D 0 cl) := hx
  clear hx
  go_enter Try.func7, Try.ntmps7
  go_wp2_with fail
  refine Calls.mono HH.out ?_
  rintro e w1 ⟨rfl, bel1⟩
  have k8 : w1.cell? ⟨b, 8, none⟩ = some (.int .i64 0) := (HX.out.below bel1).cell 8 _ rfl
  have HB : Hid (Below w.heap.size w w1) := bel1
  rw [HE.out]
  clear bel1
  go_wp2
  go_ret
  exact ⟨rfl, HB.out⟩
theorem wAssumeShape_any (b : Nat) (C Wt Bl R D : Value) (gone st : Int) (cl : Bool) (w : World) (hx : BxW w b C Wt Bl R gone D st cl) :
    Calls Try.prog 7 #[.pointer (some ⟨b, 0, none⟩), .int .i64 3] w fun e w' => e = .returned (.int .i64 1) ∧ Below w.heap.size w w' := by
  have HH : Hid (Calls Try.prog 22 #[.pointer (some ⟨b, 0, none⟩), .int .i64 3] w fun e w' => e = .returned (.bool (fmd 3 && decide (varOf 3 ≤ 2))) ∧ Below w.heap.size w w') := wHas_any b 2 3 w (hx.cell 0 _ rfl)
  have HE : Hid ((fmd 3 && decide (varOf 3 ≤ 2)) = false) := by show _ = _; decide
  clear hx
  go_enter Try.func7, Try.ntmps7
  go_wp2_with fail
  refine Calls.mono HH.out ?_
  rintro e w1 ⟨rfl, bel1⟩
  have HB : Hid (Below w.heap.size w w1) := bel1
  rw [HE.out]
  clear bel1
  go_wp2
  go_ret
  exact ⟨rfl, HB.out⟩
theorem wAssumeSet_any (b g c : Nat) (C Wt R D : Value) (gone : Int) (cl : Bool) (w : World) (hx : BxW w b C Wt (.slice (some ⟨g, 0, none⟩) 4 c) R gone D 1 cl) (h0 : w.cell? ⟨g, 0, none⟩ = some (.int .i32 1)) (h1 : w.cell? ⟨g, 1, none⟩ = some (.int .i32 0)) :
    Calls Try.prog 7 #[.pointer (some ⟨b, 0, none⟩), .int .i64 (-1)] w fun e w' => e = .returned (.int .i64 50) ∧ Below w.heap.size w w' := by
  have HH : Hid (Calls Try.prog 22 #[.pointer (some ⟨b, 0, none⟩), .int .i64 (-1)] w fun e w' => e = .returned (.bool (fmd (-1) && decide (varOf (-1) ≤ 2))) ∧ Below w.heap.size w w') := wHas_any b 2 (-1) w (hx.cell 0 _ rfl)
  have HE : Hid ((fmd (-1) && decide (varOf (-1) ≤ 2)) = true) := by show _ = _; decide
  have HX : Hid (BxW w b C Wt (.slice (some ⟨g, 0, none⟩) 4 c) R gone D 1 cl) := hx
  have hI : idx (-1) = 1 := by decide
  have hw1 : IntKind.i32.wrap 1 = 1 := by decide
  have HC : Hid (w.cell? ⟨g, 0, none⟩ = some (.int .i32 1) ∧ w.cell? ⟨g, 1, none⟩ = some (.int .i32 0)) := ⟨h0, h1⟩
  clear hx h0 h1
  go_enter Try.func7, Try.ntmps7
  go_wp2_with fail
  refine Calls.mono HH.out ?_
  rintro e w1 ⟨rfl, bel1⟩
  have hx1 := HX.out.below bel1
  have k8 : w1.cell? ⟨b, 8, none⟩ = some (.int .i64 1) := hx1.cell 8 _ rfl
  have k4 : w1.cell? ⟨b, 4, none⟩ = some (.slice (some ⟨g, 0, none⟩) 4 c) := hx1.cell 4 _ rfl
  have z0 : w1.cell? ⟨g, 0, none⟩ = some (.int .i32 1) := (bel1.cell (p := ⟨g, 0, none⟩) (World.block_lt_of_cell? w _ HC.out.1)).trans HC.out.1
  have z1 : w1.cell? ⟨g, 1, none⟩ = some (.int .i32 0) := (bel1.cell (p := ⟨g, 1, none⟩) (World.block_lt_of_cell? w _ HC.out.2)).trans HC.out.2
  have HB : Hid (Below w.heap.size w w1) := bel1
  have HT : Hid (Calls Try.prog 24 #[.pointer (some ⟨b, 0, none⟩), .int .i32 1] w1 fun e w' => e = .returned (.bool (decide ((0 : Int) < 0))) ∧ w' = w1) := wTrue_any b g c 1 0 w1 k4 (by omega) z1
  have HF : Hid (Calls Try.prog 25 #[.pointer (some ⟨b, 0, none⟩), .int .i32 1] w1 fun e w' => e = .returned (.bool (decide ((0 : Int) < 1))) ∧ w' = w1) := wFalse1_any b g c 1 w1 k4 z0
  rw [HE.out]
  clear bel1 hx1 k4 z0 z1
  go_wp2_with fail
  refine (index_any (-1) w1).mono ?_
  rintro e w2 ⟨rfl, hw2⟩
  obtain rfl : w1 = w2 := hw2.symm
  rw [hI]
  clear hw2
  go_wp2_with fail
  refine Calls.mono HT.out ?_
  rintro e w2 ⟨rfl, hw2⟩
  obtain rfl : w1 = w2 := hw2.symm
  clear hw2
  go_wp2_with fail
  refine Calls.mono HF.out ?_
  rintro e w2 ⟨rfl, hw2⟩
  obtain rfl : w1 = w2 := hw2.symm
  clear hw2
  go_wp2
  go_ret
  exact ⟨rfl, HB.out⟩
theorem wUndo0_any (b : Nat) (C Wt Bl R : Value) (a : Option Addr) (c : Nat) (gone st : Int) (cl : Bool) (w : World) (hx : BxW w b C Wt Bl R gone (.slice a 1 c) st cl) :
    Calls Try.prog 8 #[.pointer (some ⟨b, 0, none⟩)] w fun e w' => e = .returned (.int .i64 3) ∧ w' = w := by
  have HD : Hid (Calls Try.prog 17 #[.pointer (some ⟨b, 0, none⟩)] w fun e w' => e = .returned (.int .i64 0) ∧ w' = w) := wDepth_any b a c w (hx.cell 7 _ rfl)
  clear hx
  go_enter Try.func8, Try.ntmps8
  go_wp2_with fail
  refine Calls.mono HD.out ?_
  rintro e w2 ⟨rfl, hw2⟩
  obtain rfl : w = w2 := hw2.symm
  clear hw2
  go_wp2
  go_ret
  exact ⟨rfl, rfl⟩
theorem rds_one (w : World) : Rds ((w.alloc (.cells #[.int .i64 1] 3)).alloc (.cells #[.slice (some ⟨w.heap.size, 0, none⟩) 1 1] 29)) (.slice (some ⟨w.heap.size + 1, 0, none⟩) 1 1) [[1]] := by
  have hr : Rd (w.alloc (.cells #[.int .i64 1] 3)) (.slice (some ⟨w.heap.size, 0, none⟩) 1 1) [1] := (ownOne w 1).rd (by simp)
  refine ⟨by simp, some ⟨w.heap.size + 1, 0, none⟩, 1, rfl, Nat.le_refl _, by unfold maxLen; decide, by simp, fun _ => ⟨w.heap.size + 1, 0, rfl, by rw [World.size_alloc, World.size_alloc]; omega, fun j hj => ?_⟩⟩
  have hj0 : j = 0 := by simp at hj; omega
  subst hj0
  refine ⟨.slice (some ⟨w.heap.size, 0, none⟩) 1 1, ?_, hr.below (below_box _ _)⟩
  have hh := World.alloc_heap_new (w.alloc (.cells #[.int .i64 1] 3)) (.cells #[.slice (some ⟨w.heap.size, 0, none⟩) 1 1] 29)
  rw [World.size_alloc] at hh
  show (match ((w.alloc (.cells #[.int .i64 1] 3)).alloc (.cells #[.slice (some ⟨w.heap.size, 0, none⟩) 1 1] 29)).heap[w.heap.size + 1]? with | some (Obj.cells c elem frozen) => c[0 + 0]? | x => none) = _
  rw [hh]
  rfl
namespace watchNumbers
set_option maxRecDepth 100000 in
set_option maxHeartbeats 3200000 in
theorem walk (w : World) :
    Calls Try.prog 3 #[] w fun e w' => e = .returned (.bool true) ∧ Below w.heap.size w w' := by
  go_enter Try.func3, Try.ntmps3
  go_wp2_with fail
  refine (wNewNo_any w).mono ?_
  rintro e w1 ⟨rfl, bel1⟩
  have HB1 : Hid (Below w.heap.size w w1) := bel1
  clear bel1
  go_wp2_with fail
  refine (wNew_any _ _ (rds_one w1)).mono ?_
  rintro e w2 ⟨b, rfl, hbB, C, Wt, Bl, D, lit, hx, hn, hb⟩
  have HB2 : Hid (Below w.heap.size w w2) := Below.step HB1.out (Below.step (Below.step (below_box _ _) (below_box _ _)) hb)
  have hW1 : w.heap.size ≤ ((w1.alloc (.cells #[.int .i64 1] 3)).alloc (.cells #[.slice (some ⟨w1.heap.size, 0, none⟩) 1 1] 29)).heap.size := Nat.le_trans HB1.out.size (Below.step (below_box w1 _) (below_box _ _)).size
  generalize ((w1.alloc (.cells #[.int .i64 1] 3)).alloc (.cells #[.slice (some ⟨w1.heap.size, 0, none⟩) 1 1] 29)) = W1 at *
  obtain ⟨gC, cC, eC, -, -, -⟩ := row_some hn.c (by decide)
  obtain ⟨gW, cW, eW, -, -, -⟩ := row_some hn.w (by decide)
  obtain ⟨gB, cB, eB, -, -, -⟩ := row_some hn.b (by decide)
  obtain ⟨gD, cD, eD, -, -, -⟩ := row_some hn.d (by decide)
  obtain ⟨gL, cL, eL, -, -, -⟩ := row_some hn.l (by decide)
  have eW' : Wt = .slice (some ⟨gW, 0, none⟩) 1 cW := eW
  subst eC; subst eW'; subst eB; subst eD; subst eL
  have HS : Hid (BxW w2 b (.slice (some ⟨gC, 0, none⟩) 1 cC) (.slice (some ⟨gW, 0, none⟩) 1 cW) (.slice (some ⟨gB, 0, none⟩) 4 cB) (.slice none 0 0) 0 (.slice (some ⟨gD, 0, none⟩) 1 cD) 0 false ∧ Nr W1.heap.size w2 (.slice (some ⟨gC, 0, none⟩) 1 cC) (.slice (some ⟨gW, 0, none⟩) 1 cW) (.slice (some ⟨gB, 0, none⟩) 4 cB) (.slice none 0 0) (.slice (some ⟨gD, 0, none⟩) 1 cD) (.slice (some ⟨gL, 0, none⟩) 1 cL) (.slice none 0 0) 0 0 0 [0] [] [] ∧ W1.heap.size ≤ b ∧ W1.heap.size ≤ w2.heap.size ∧ w.heap.size ≤ W1.heap.size) := ⟨hx, hn, hbB, hb.size, hW1⟩
  clear hx hn hb hbB eW hW1
  go_wp2_with fail
  refine (wAssumeTurn_any b _ _ _ _ _ 0 false w2 HS.out.1).mono ?_
  rintro e w3 ⟨rfl, bel3⟩
  have H3 : Hid (Below w2.heap.size w2 w3) := bel3
  clear bel3
  go_wp2_with fail
  refine (wUndo0_any b _ _ _ _ _ cD 0 0 false w3 (HS.out.1.below H3.out)).mono ?_
  rintro e w4 ⟨rfl, hw4⟩
  obtain rfl : w3 = w4 := hw4.symm
  clear hw4
  go_wp2_with fail
  refine (wRun_any W1.heap.size b gB cB gC cC gL cL gD cD gW cW false w3 HS.out.2.2.1 (Nat.le_trans HS.out.2.2.2.1 H3.out.size) (HS.out.1.below H3.out) (HS.out.2.1.below H3.out)).mono ?_
  rintro e w5 ⟨rfl, R, T, hx, hn, hb⟩
  have H5 : Hid (BxW w5 b (.slice (some ⟨gC, 0, none⟩) 1 cC) (.slice none 0 0) (.slice (some ⟨gB, 0, none⟩) 4 cB) R 1 (.slice (some ⟨gD, 0, none⟩) 1 cD) 1 false ∧ w5.cell? ⟨gB, 0, none⟩ = some (.int .i32 1) ∧ w5.cell? ⟨gB, 1, none⟩ = some (.int .i32 0) ∧ Below w.heap.size w w5) := ⟨hx, row_cell hn.b (j := 0) rfl, row_cell hn.b (j := 1) rfl, (Below.step HB2.out H3.out).trans (hb.mono HS.out.2.2.2.2)⟩
  clear hx hn hb
  go_wp2_with fail
  refine (wAssumeSet_any b gB cB _ _ R _ 1 false w5 H5.out.1 H5.out.2.1 H5.out.2.2.1).mono ?_
  rintro e w6 ⟨rfl, bel6⟩
  have H6 : Hid (Below w5.heap.size w5 w6) := bel6
  clear bel6
  go_wp2_with fail
  refine (wAssumeShape_any b _ _ _ R _ 1 1 false w6 (H5.out.1.below H6.out)).mono ?_
  rintro e w7 ⟨rfl, bel7⟩
  have H7 : Hid (Below w.heap.size w w7) := Below.step (Below.step H5.out.2.2.2 H6.out) bel7
  clear bel7
  go_wp2
  go_ret
  exact ⟨rfl, H7.out⟩
end watchNumbers
end Go.Proofs.Ytljcdlpjnpcdmaa
