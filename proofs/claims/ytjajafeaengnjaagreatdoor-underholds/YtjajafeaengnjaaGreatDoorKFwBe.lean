/-
  forward: begin.
  KEEP: len below nil form rd mono one more grown lt size cell some none of ofNat add out step row get at mk new
-/
import Derived.Test.YtjajafeaengnjaaGreatDoorKFwY
set_option linter.unusedSimpArgs false
set_option linter.unusedVariables false
namespace Go.Proofs.YtjajafeaengnjaaGreatDoor
open Go Go.RowKit
theorem mkC11 (W : World) : (Instr.makeSlice 57 (.int .i64 1) (.int .i64 1)).run Tryz.prog W = .ok (.slice (some ⟨W.heap.size, 0, none⟩) 1 1) (W.alloc (.cells #[.slice none 0 0, .int .i64 0] 90)) := by
  obtain ⟨iC, hiC, hzC0, hzC1, hzC2⟩ := info_parts infoC11
  have h := run_make (P := Tryz.prog) W 57 90 iC (.agg #[.slice none 0 0, .int .i64 0]) Tryz.underlying57 hiC hzC0 .i64 .i64 1 1 (by omega) (by omega) (by rw [hzC2]; decide) (by decide)
  rw [hzC1] at h
  have e : madeCells (Value.agg #[.slice none 0 0, .int .i64 0]).cells (Int.toNat 1 * 2) = #[.slice none 0 0, .int .i64 0] := by kernel_rfl
  rw [e] at h
  exact h
theorem mkL11 (W : World) : (Instr.makeSlice 59 (.int .i64 2) (.int .i64 2)).run Tryz.prog W = .ok (.slice (some ⟨W.heap.size, 0, none⟩) 2 2) (W.alloc (.cells #[.int .i32 0, .int .i32 0, .int .i32 0, .int .i32 0] 100)) := by
  obtain ⟨iC, hiC, hzC0, hzC1, hzC2⟩ := info_parts infoL11
  have h := run_make (P := Tryz.prog) W 59 100 iC (.agg #[.int .i32 0, .int .i32 0]) Tryz.underlying59 hiC hzC0 .i64 .i64 2 2 (by omega) (by omega) (by rw [hzC2]; decide) (by decide)
  rw [hzC1] at h
  have e : madeCells (Value.agg #[.int .i32 0, .int .i32 0]).cells (Int.toNat 2 * 2) = #[.int .i32 0, .int .i32 0, .int .i32 0, .int .i32 0] := by kernel_rfl
  rw [e] at h
  exact h
theorem three11 (w : World) (a b c : Obj) : (((w.alloc a).alloc b).alloc c).drew.heap[w.heap.size]? = some a ∧ (((w.alloc a).alloc b).alloc c).drew.heap[w.heap.size + 1]? = some b ∧ (((w.alloc a).alloc b).alloc c).drew.heap[w.heap.size + 1 + 1]? = some c ∧ Below w.heap.size w (((w.alloc a).alloc b).alloc c).drew := by
  have s1 : (w.alloc a).heap.size = w.heap.size + 1 := World.size_alloc ..
  have s2 : ((w.alloc a).alloc b).heap.size = w.heap.size + 1 + 1 := by rw [World.size_alloc, s1]
  have h1 := World.alloc_heap_new w a
  have h2 := World.alloc_heap_new (w.alloc a) b
  have h3 := World.alloc_heap_new ((w.alloc a).alloc b) c
  have b2 := below_box (w.alloc a) b
  have b3 := below_box ((w.alloc a).alloc b) c
  rw [s1] at h2
  rw [s2] at h3
  refine ⟨?_, ?_, h3, (Below.step (Below.step (below_box w a) b2) b3).drew⟩
  · show (((w.alloc a).alloc b).alloc c).heap[w.heap.size]? = _
    rw [b3.block _ (by omega), b2.block _ (by omega)]; exact h1
  · show (((w.alloc a).alloc b).alloc c).heap[w.heap.size + 1]? = _
    rw [b3.block _ (by omega)]; exact h2
/-- what begin says -/
def BeS (w : World) (v : Value) (w' : World) : Prop :=
  ∃ sC sL, v = .agg #[.bool false, sC, .slice none 0 0, sL, .slice none 0 0, .slice none 0 0, .slice none 0 0, .int .i64 0] ∧ w'.ownsRow w.heap.size 90 2 sC 1 [.slice none 0 0, .int .i64 0] ∧ w'.ownsRow w.heap.size 100 2 sL 2 [.int .i32 0, .int .i32 0, .int .i32 0, .int .i32 0] ∧ Below w.heap.size w w'
set_option maxRecDepth 100000 in
set_option maxHeartbeats 1600000 in
theorem fBegin_any (w : World) :
    Calls Tryz.prog 36 #[] w fun e w' => ∃ v, e = .returned v ∧ BeS w v w' := by
  have mC := mkC11
  have mL := mkL11
  go_enter Tryz.func36, Tryz.ntmps36
  go_upto_region 1 with fail
  go_region_law (fail)
  all_goals
    obtain ⟨h1, h2, h3, hb⟩ := three11 w _ _ _
    go_wp2
    refine bodyPost_ret (results_cell_row rfl _ _ w.heap.size 62 _ (0, 0) _ rfl h1 Tryz.underlying62 rfl (by kernel_rfl)) rfl ?_
    first
    | exact ⟨_, rfl, _, _, rfl, ⟨rfl, .inr ⟨_, _, _, rfl, by omega, h2, by omega, by unfold maxLen; omega, rfl, rfl⟩⟩, ⟨rfl, .inr ⟨_, _, _, rfl, by omega, h3, by omega, by unfold maxLen; omega, rfl, rfl⟩⟩, hb⟩
    | exact ⟨_, rfl, _, _, rfl, ⟨rfl, .inr ⟨_, _, _, rfl, by omega, h3, by omega, by unfold maxLen; omega, rfl, rfl⟩⟩, ⟨rfl, .inr ⟨_, _, _, rfl, by omega, h2, by omega, by unfold maxLen; omega, rfl, rfl⟩⟩, hb⟩
end Go.Proofs.YtjajafeaengnjaaGreatDoor
