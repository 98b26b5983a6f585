/-
  SolveUsual, walked.
-/
import Derived.Test.YtnnpijicacalfaaChecked
import Derived.WalkKit
import Derived.WalkLawsBesides
import Derived.Below
import Derived.RangeFuncRecord
import Derived.Laws.Rows
set_option linter.unusedSimpArgs false
set_option linter.unusedVariables false
namespace Go.Proofs.Ytnnpijicacalfaa.solveUsual
open Go Go.RowKit

theorem run_store_float (P : Program) (w : World) (a : Addr) (m : Mode) (k : FloatKind) (x : Nat) : (store a (.float k x) m).run P w = stored P w a (.float k x) m := run_store P w a _ m rfl
attribute [local go_sem] run_store_float
theorem program_any (W : World) :
    Calls Try.prog 4 #[] W fun e w' => e = .returned (.agg #[.int .i64 100, .int .i64 2000, .int .i64 300, .float .f64 4606732058837280358, .int .i64 3, .int .i64 (-1)]) ∧ Below W.heap.size W w' := by
  go_enter Try.func4, Try.ntmps4
  go_wp2
  have hb := World.alloc_heap_new W (.cells #[.int .i64 100, .int .i64 2000, .int .i64 300, .float .f64 4606732058837280358, .int .i64 3, .int .i64 (-1)] 24)
  refine bodyPost_ret (results_cell_row rfl _ _ W.heap.size 24 _ (0, 0) _ rfl hb Try.underlying24 rfl (by kernel_rfl)) rfl ?_
  exact ⟨rfl, (Below.refl _ _).alloc (Nat.le_refl _) _⟩
theorem document_any (W : World) :
    Calls Try.prog 5 #[] W fun e w' => e = .returned (.agg #[.int .i64 100, .int .i64 2000, .int .i64 300, .float .f64 4606732058837280358, .int .i64 3, .int .i64 (-1)]) ∧ Below W.heap.size W w' := by
  go_enter Try.func5, Try.ntmps5
  go_wp2
  have hb := World.alloc_heap_new W (.cells #[.int .i64 100, .int .i64 2000, .int .i64 300, .float .f64 4606732058837280358, .int .i64 3, .int .i64 (-1)] 24)
  refine bodyPost_ret (results_cell_row rfl _ _ W.heap.size 24 _ (0, 0) _ rfl hb Try.underlying24 rfl (by kernel_rfl)) rfl ?_
  exact ⟨rfl, (Below.refl _ _).alloc (Nat.le_refl _) _⟩
theorem decay_is (n : Nat) (w : World) : (Op.equalIn (n + 1) 22 (.float .f64 4606732058837280358) (.float .f64 4606732058837280358)).run Try.prog w = .ok true w := by
  rfl
attribute [local go_sem] decay_is
theorem walk (W : World) :
    Calls Try.prog 3 #[] W fun e w' => e = .returned (.bool true) ∧ Below W.heap.size W w' := by
  go_enter Try.func3, Try.ntmps3
  go_wp2_with fail
  refine (program_any W).mono ?_
  rintro e w1 ⟨rfl, b1⟩
  go_wp2_with fail
  refine (document_any _).mono ?_
  rintro e w2 ⟨rfl, b2⟩
  have B := Below.trans b1 (b2.mono b1.size)
  clear b1 b2
  go_wp2
  go_ret
  exact ⟨rfl, B⟩
end Go.Proofs.Ytnnpijicacalfaa.solveUsual
