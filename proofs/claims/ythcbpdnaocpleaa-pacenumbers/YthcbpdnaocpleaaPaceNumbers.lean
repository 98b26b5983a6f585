/-
  PaceNumbers, walked.
  KEEP: walk putObj alloc same block size os tape output mono lt own new keep conf rest clr below grown step no yes done
-/
import Derived.Test.YthcbpdnaocpleaaPcX
import Derived.Sort.AtCall
set_option linter.unusedSimpArgs false
set_option linter.unusedVariables false
namespace Go.Proofs.Ythcbpdnaocpleaa.paceNumbers
open Go Go.RowKit

theorem run_store_float (P : Program) (w : World) (a : Addr) (m : Mode) (k : FloatKind) (x : Nat) : (store a (.float k x) m).run P w = stored P w a (.float k x) m := run_store P w a _ m rfl
attribute [local go_sem] run_store_float
theorem right : fmC 1048576 1048576 1 4602678819172646912 3 = true := by decide +kernel
theorem wrong : fmC 1048577 1048576 1 4602678819172646912 3 = false := by decide +kernel
theorem e_over : plE 1048576 1048576 1 4602678819172646912 3 1048577 = 2 := by
  unfold plE; rw [if_neg (by rw [right]; simp), if_pos (by omega)]
theorem e_under : plE 1048576 1048576 1 4602678819172646912 3 (-1) = 2 := by
  unfold plE; rw [if_neg (by rw [right]; simp), if_pos (by omega)]

set_option maxHeartbeats 1600000 in
theorem walk (w : World) :
    Calls Try.prog 3 #[] w fun e w' => e = .returned (.bool true) ∧ Below w.heap.size w w' := by
  have HF1 : Hid (∀ W, Calls Try.prog 11 #[.agg #[.int .i64 1048576, .int .i64 1048576, .int .i64 1, .float .f64 4602678819172646912, .int .i64 3, .int .i64 0]] W fun e w' => e = .returned (.bool true) ∧ Below W.heap.size W w') := fun W => by
    have := formed_any 1048576 1048576 1 4602678819172646912 3 0 W
    rwa [right] at this
  have HF2 : Hid (∀ W, Calls Try.prog 11 #[.agg #[.int .i64 1048577, .int .i64 1048576, .int .i64 1, .float .f64 4602678819172646912, .int .i64 3, .int .i64 0]] W fun e w' => e = .returned (.bool false) ∧ Below W.heap.size W w') := fun W => by
    have := formed_any 1048577 1048576 1 4602678819172646912 3 0 W
    rwa [wrong] at this
  have HM : Hid (∀ W, Calls Try.prog 9 #[.agg #[.int .i64 1048577, .int .i64 1048576, .int .i64 1, .float .f64 4602678819172646912, .int .i64 3, .int .i64 0]] W fun e w' => e = .returned (.tuple #[.agg #[.nilFunc, .nilFunc, .nilFunc], .int .i64 1]) ∧ Below W.heap.size W w') := fun W => make_no 1048577 1048576 1 4602678819172646912 3 0 W wrong
  have HP1 : Hid (∀ W, Calls Try.prog 10 #[.agg #[.int .i64 1048576, .int .i64 1048576, .int .i64 1, .float .f64 4602678819172646912, .int .i64 3, .int .i64 0], .int .i64 1048577] W fun e w' => ∃ v, e = .returned (.tuple #[v, .int .i64 2]) ∧ Below W.heap.size W w') := fun W => by
    have := plan_any 1048576 1048576 1 4602678819172646912 3 0 1048577 W
    rw [e_over] at this
    exact this.mono fun e w' ⟨v, h1, _, h3⟩ => ⟨v, h1, h3⟩
  have HP2 : Hid (∀ W, Calls Try.prog 10 #[.agg #[.int .i64 1048576, .int .i64 1048576, .int .i64 1, .float .f64 4602678819172646912, .int .i64 3, .int .i64 0], .int .i64 (-1)] W fun e w' => ∃ v, e = .returned (.tuple #[v, .int .i64 2]) ∧ Below W.heap.size W w') := fun W => by
    have := plan_any 1048576 1048576 1 4602678819172646912 3 0 (-1) W
    rw [e_under] at this
    exact this.mono fun e w' ⟨v, h1, _, h3⟩ => ⟨v, h1, h3⟩
  go_enter Try.func3, Try.ntmps3
  go_upto_region 4 with fail
  have HC1 : Hid (Cb ((w.alloc (.cells #[.int .i64 1048576, .int .i64 1048576, .int .i64 1, .float .f64 4602678819172646912, .int .i64 3, .int .i64 0] 24)).alloc (.cells #[.int .i64 1048577, .int .i64 1048576, .int .i64 1, .float .f64 4602678819172646912, .int .i64 3, .int .i64 0] 24)) w.heap.size 1048576 1048576 1 4602678819172646912 3 0) := (Cb.new _ _ _ _ _ _ _).on (below_new _ _) (Cb.new _ _ _ _ _ _ _).lt
  have HC2 : Hid (Cb ((w.alloc (.cells #[.int .i64 1048576, .int .i64 1048576, .int .i64 1, .float .f64 4602678819172646912, .int .i64 3, .int .i64 0] 24)).alloc (.cells #[.int .i64 1048577, .int .i64 1048576, .int .i64 1, .float .f64 4602678819172646912, .int .i64 3, .int .i64 0] 24)) (w.heap.size + 1) 1048577 1048576 1 4602678819172646912 3 0) := by
    have := Cb.new (w.alloc (.cells #[.int .i64 1048576, .int .i64 1048576, .int .i64 1, .float .f64 4602678819172646912, .int .i64 3, .int .i64 0] 24)) 1048577 1048576 1 4602678819172646912 3 0
    rwa [World.size_alloc] at this
  have HB : Hid (Below w.heap.size w ((w.alloc (.cells #[.int .i64 1048576, .int .i64 1048576, .int .i64 1, .float .f64 4602678819172646912, .int .i64 3, .int .i64 0] 24)).alloc (.cells #[.int .i64 1048577, .int .i64 1048576, .int .i64 1, .float .f64 4602678819172646912, .int .i64 3, .int .i64 0] 24))) := (below_new _ _).next (below_new _ _) (Nat.le_refl _)
  generalize (w.alloc (.cells #[.int .i64 1048576, .int .i64 1048576, .int .i64 1, .float .f64 4602678819172646912, .int .i64 3, .int .i64 0] 24)).alloc (.cells #[.int .i64 1048577, .int .i64 1048576, .int .i64 1, .float .f64 4602678819172646912, .int .i64 3, .int .i64 0] 24) = W1 at *
  have HS : Hid (∀ W, Below W1.heap.size W1 W → Cb W w.heap.size 1048576 1048576 1 4602678819172646912 3 0 ∧ Cb W (w.heap.size + 1) 1048577 1048576 1 4602678819172646912 3 0 ∧ Below w.heap.size w W) := fun W h => ⟨HC1.out.on h HC1.out.lt, HC2.out.on h HC2.out.lt, HB.out.next h (Nat.le_refl _)⟩
  obtain ⟨j0, j1, j2, j3, j4, j5⟩ := HC2.out.cells
  go_upto_region 5 with (go_at_call 9; refine (HM.out _).mono ?_; rintro e w2 ⟨rfl, bel2⟩)
  have HB2 : Hid (Below W1.heap.size W1 (w2.alloc (.cells #[.nilFunc, .nilFunc, .nilFunc] 27))) := bel2.next (below_new _ _) (Nat.le_refl _)
  clear j0 j1 j2 j3 j4 j5 bel2 HC1 HC2 HB
  generalize w2.alloc (.cells #[.nilFunc, .nilFunc, .nilFunc] 27) = W3 at *
  obtain ⟨j0, j1, j2, j3, j4, j5⟩ := (HS.out _ HB2.out).1.cells
  go_upto_region 6 with (go_at_call 10; refine (HP1.out _).mono ?_; rintro e w4 ⟨v4, rfl, bel4⟩)
  have HB4 : Hid (Below W1.heap.size W1 w4) := HB2.out.next bel4 (Nat.le_refl _)
  clear j0 j1 j2 j3 j4 j5 bel4
  obtain ⟨j0, j1, j2, j3, j4, j5⟩ := (HS.out _ HB4.out).1.cells
  go_upto_region 7 with (go_at_call 10; refine (HP2.out _).mono ?_; rintro e w5 ⟨v5, rfl, bel5⟩)
  have HB5 : Hid (Below W1.heap.size W1 w5) := HB4.out.next bel5 (Nat.le_refl _)
  clear j0 j1 j2 j3 j4 j5 bel5
  obtain ⟨j0, j1, j2, j3, j4, j5⟩ := (HS.out _ HB5.out).1.cells
  have HQ : Hid (∀ W, Below w5.heap.size w5 W → (W.cell? ⟨w.heap.size + 1, 0, none⟩ = some (.int .i64 1048577) ∧ W.cell? ⟨w.heap.size + 1, 1, none⟩ = some (.int .i64 1048576) ∧ W.cell? ⟨w.heap.size + 1, 2, none⟩ = some (.int .i64 1) ∧ W.cell? ⟨w.heap.size + 1, 3, none⟩ = some (.float .f64 4602678819172646912) ∧ W.cell? ⟨w.heap.size + 1, 4, none⟩ = some (.int .i64 3) ∧ W.cell? ⟨w.heap.size + 1, 5, none⟩ = some (.int .i64 0)) ∧ Hid (Below w.heap.size w W)) := fun W h => ⟨(HS.out W (HB5.out.next h (Nat.le_refl _))).2.1.cells, (HS.out W (HB5.out.next h (Nat.le_refl _))).2.2⟩
  go_wp2_with (first
    | (go_at_call_has 11 (Value.agg #[Value.int IntKind.i64 1048576, Value.int IntKind.i64 1048576, Value.int IntKind.i64 1, Value.float FloatKind.f64 4602678819172646912, Value.int IntKind.i64 3, Value.int IntKind.i64 0]); refine (HF1.out _).mono ?_; rintro e w6 ⟨rfl, bel6⟩; obtain ⟨⟨i0, i1, i2, i3, i4, i5⟩, HB6⟩ := HQ.out w6 bel6)
    | (go_at_call 11; refine (HF2.out _).mono ?_; rintro e w7 ⟨rfl, bel7⟩))
  go_ret
  exact ⟨rfl, HB6.out.next bel7 (Nat.le_refl _)⟩
end Go.Proofs.Ythcbpdnaocpleaa.paceNumbers
