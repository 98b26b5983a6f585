/-
  under, depotref18: the ban of some literals.
  KEEP: len below nil form rd mono one more grown lt size cell some none of ofNat add out step row get at mk new made look put del kept drew alloc has same other map perm td yes no pos all ne enter leave pm gone less keep box c u l f h r v ty own off cells nd txt tid bel oth sum done fwd setD snd need mem c0 c1 f0 f1 set0 set1 lo rds app ap set rf
-/
import Derived.Test.YtjajafeaengnjaaGreatDoorKCopy
import Derived.Test.YtjajafeaengnjaaGreatDoorJUnC
import Derived.Test.YtjajafeaengnjaaGreatDoorKNum
set_option linter.unusedSimpArgs false
set_option linter.unusedVariables false
namespace Go.Proofs.YtjajafeaengnjaaGreatDoor
open Go Go.RowKit

theorem own_cap18 (w : World) (n : Nat) (hn : n ≤ 1099511627776) : Own w.heap.size (w.alloc (.cells (madeCells #[.int .i64 0] n) 3)) (.slice (some ⟨w.heap.size, 0, none⟩) 0 n) [] :=
  ⟨by simp, .inr ⟨w.heap.size, n, _, rfl, Nat.le_refl _, World.alloc_heap_new w _, Nat.zero_le _, by unfold maxLen; omega, by simp [size_madeCells], by simp⟩⟩
theorem opp_take (zs : List Int) (k : Nat) (h : k < zs.length) : opp (zs.take (k + 1)) = opp (zs.take k) ++ [-(zs.getD k 0)] := by
  unfold opp
  rw [take_succ_getD zs 0 k h, List.map_append]; rfl
theorem opp_len18 (zs : List Int) : (opp zs).length = zs.length := by unfold opp; simp
set_option maxHeartbeats 1600000 in
theorem refBan_any (v : Value) (zs : List Int) (w : World) (hr : Rd w v zs) (hf : zs.all fmd = true) :
    Calls Tryz.prog 20 #[v] w fun e w' => ∃ u, e = .returned u ∧ Own w.heap.size w' u (opp zs) ∧ Below w.heap.size w w' := by
  have hl := hr.len
  have HR : Hid (Rd w v zs) := hr
  have HF : Hid (zs.all fmd = true) := hf
  obtain ⟨a, c, rfl, hc, hm, _⟩ := hr.form
  obtain ⟨i0, hi, hz0, hz1, hz2⟩ := info_parts Tryz.info3
  clear hr hf
  go_enter Tryz.func20, Tryz.ntmps20
  go_wp2
  go_loopg [3, 4] zs.length (fun g u i wr => ∃ k : Nat, k + g = zs.length ∧ i = .int .i64 k ∧ Own w.heap.size wr u (opp (zs.take k)) ∧ Below w.heap.size w wr)
  case atStart => exact ⟨0, by omega, rfl, World.ownsRow_nil _ _ _ _, Below.refl _ _⟩
  case round =>
    obtain ⟨k, hk, rfl, own, bel⟩ := hrel
    have HK : Hid (k + gk = zs.length) := hk
    have hs := bel.size
    by_cases hlt : k < zs.length
    · obtain ⟨a', c', e', _, _, hcell⟩ := (HR.out.below bel).form
      have e3 : a' = a ∧ c' = c := by injection e' with q1 q2 q3; exact ⟨q1.symm, q3.symm⟩
      obtain ⟨rfl, rfl⟩ := e3
      obtain ⟨b, off, rfl, hck⟩ := hcell k hlt
      have HS : Hid (opp (zs.take (k + 1)) = opp (zs.take k) ++ [-(zs.getD k 0)]) := opp_take zs k hlt
      have hlk : (opp (zs.take k)).length ≤ k := by rw [opp_len18]; simp; omega
      have hfz := fmd_range (List.all_eq_true.1 HF.out _ (getD_mem' (d := 0) hlt))
      clear hk hcell e'
      generalize opp (zs.take k) = out at *
      generalize zs.getD k 0 = z at *
      have hwl : IntKind.i64.wrap (-z) = -z := by rw [IntKind.wrap_i64]; omega
      go_wp2_with (at_builtin; refine wpList_append_own _ rfl _ _ 25 rfl w.heap.size 3 i0 (.int .i64 0) 1 8 Tryz.underlying25 hi hz0 hz1 hz2 rfl (by decide) _ out.length (out.map (Value.int .i64)) rfl (World.ownsRow.alloc own _) _ 1 1 [.int .i64 (-z)] rfl rfl (cell_one_new _ _ _) (by simp [Value.oneCell']) (by unfold maxLen; omega) (by omega) (by simp; omega) ?_; intro v2 w2 own2 gr2 hn2)
      go_roundg (gk - 1)
      case measure => have := HK.out; omega
      case rel => exact ⟨k + 1, by have := HK.out; omega, by go_num, by rw [HS.out]; exact own_one_more own2, (bel.alloc hs _).grown gr2 (by simp; omega) (fun j hj => (own.lt j hj).1)⟩
    · obtain rfl : k = zs.length := by omega
      rw [List.take_length] at own
      clear hk
      go_wp2
      go_ret
      exact ⟨_, rfl, own, bel⟩
set_option maxHeartbeats 1600000 in
theorem ban_any (v : Value) (zs : List Int) (w : World) (hr : Rd w v zs) (hf : zs.all fmd = true) (hn : zs.length ≤ 1048576) :
    Calls Tryz.prog 12 #[v] w fun e w' => ∃ u, e = .returned u ∧ Own w.heap.size w' u (opp zs) ∧ Below w.heap.size w w' := by
  have hl := hr.len
  have HR : Hid (Rd w v zs) := hr
  have HF : Hid (zs.all fmd = true) := hf
  obtain ⟨a, c, rfl, hc, hm, _⟩ := hr.form
  obtain ⟨i0, hi, hz0, hz1, hz2⟩ := info_parts Tryz.info3
  have hmk : ∀ W : World, (Instr.makeSlice 25 (.int .i64 0) (.int .i64 (zs.length : Int))).run Tryz.prog W = .ok (.slice (some ⟨W.heap.size, 0, none⟩) 0 zs.length) (W.alloc (.cells (madeCells #[.int .i64 0] zs.length) 3)) := fun W => by
    have := run_makeSlice (P := Tryz.prog) W 25 3 i0 (.int .i64 0) Tryz.underlying25 hi hz0 .i64 .i64 0 (zs.length : Int) (by omega) (by omega) (by rw [hz1]; omega) (by rw [hz2]; omega) (by omega)
    simpa [hz1, Value.cells] using this
  have HO0 : Hid (Own w.heap.size (w.alloc (.cells (madeCells #[.int .i64 0] zs.length) 3)) (.slice (some ⟨w.heap.size, 0, none⟩) 0 zs.length) (opp (zs.take 0))) := own_cap18 w zs.length (by omega)
  have HB0 : Hid (Below w.heap.size w (w.alloc (.cells (madeCells #[.int .i64 0] zs.length) 3))) := below_box _ _
  clear hr hf
  go_enter Tryz.func12, Tryz.ntmps12
  go_wp2
  generalize w.alloc (.cells (madeCells #[.int .i64 0] zs.length) 3) = w4 at *
  go_loopg [3, 11] zs.length (fun g u i wr => ∃ k : Nat, k + g = zs.length ∧ i = .int .i64 k ∧ Own w.heap.size wr u (opp (zs.take k)) ∧ Below w.heap.size w wr)
  case atStart => exact ⟨0, by omega, rfl, HO0.out, HB0.out⟩
  case round =>
    obtain ⟨k, hk, rfl, own, bel⟩ := hrel
    have HK : Hid (k + gk = zs.length) := hk
    have hs := bel.size
    by_cases hlt : k < zs.length
    · obtain ⟨a', c', e', _, _, hcell⟩ := (HR.out.below bel).form
      have e3 : a' = a ∧ c' = c := by injection e' with q1 q2 q3; exact ⟨q1.symm, q3.symm⟩
      obtain ⟨rfl, rfl⟩ := e3
      obtain ⟨b, off, rfl, hck⟩ := hcell k hlt
      have HS : Hid (opp (zs.take (k + 1)) = opp (zs.take k) ++ [-(zs.getD k 0)]) := opp_take zs k hlt
      have hlk : (opp (zs.take k)).length ≤ k := by rw [opp_len18]; simp; omega
      have hfz := fmd_range (List.all_eq_true.1 HF.out _ (getD_mem' (d := 0) hlt))
      clear hk hcell e'
      generalize opp (zs.take k) = out at *
      generalize zs.getD k 0 = z at *
      have hwl : IntKind.i64.wrap (-z) = -z := by rw [IntKind.wrap_i64]; omega
      go_wp2_with (at_builtin; refine wpList_append_own _ rfl _ _ 25 rfl w.heap.size 3 i0 (.int .i64 0) 1 8 Tryz.underlying25 hi hz0 hz1 hz2 rfl (by decide) _ out.length (out.map (Value.int .i64)) rfl (World.ownsRow.alloc own _) _ 1 1 [.int .i64 (-z)] rfl rfl (cell_one_new _ _ _) (by simp [Value.oneCell']) (by unfold maxLen; omega) (by omega) (by simp; omega) ?_; intro v2 w2 own2 gr2 hn2)
      go_roundg (gk - 1)
      case measure => have := HK.out; omega
      case rel => exact ⟨k + 1, by have := HK.out; omega, by go_num, by rw [HS.out]; exact own_one_more own2, (bel.alloc hs _).grown gr2 (by simp; omega) (fun j hj => (own.lt j hj).1)⟩
    · obtain rfl : k = zs.length := by omega
      rw [List.take_length] at own
      clear hk
      go_wp2
      go_ret
      exact ⟨_, rfl, own, bel⟩
end Go.Proofs.YtjajafeaengnjaaGreatDoor
