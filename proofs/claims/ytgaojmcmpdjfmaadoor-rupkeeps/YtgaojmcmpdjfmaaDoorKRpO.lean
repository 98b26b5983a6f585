/-
  rup: opposites.
  KEEP: set on app at below new trans refl start ap kept rd rds mono lt add none own nil put len pos setF setV putL putR other neV same_any
-/
import Derived.Test.YtgaojmcmpdjfmaaDoorJUnS
import Derived.Test.YtgaojmcmpdjfmaaDoorKOnP
import Derived.Test.YtgaojmcmpdjfmaaDoorJNum
set_option linter.unusedSimpArgs false
set_option linter.unusedVariables false
namespace Go.Proofs.YtgaojmcmpdjfmaaDoor
open Go Go.RowKit

theorem opw_opp {c : List Int} (h : c.all fmd = true) : c.map ngw = opp c := by
  unfold opp
  exact List.map_congr_left fun x hx => ngw_fmd (List.all_eq_true.1 h x hx)
def negL (c : List Int) (j : Nat) : List Int := (c.take j).map ngw ++ List.replicate (c.length - j) 0
theorem negL_len {c : List Int} {j : Nat} (h : j ≤ c.length) : (negL c j).length = c.length := by simp [negL]; omega
theorem negL_all (c : List Int) : negL c c.length = c.map ngw := by simp [negL]
theorem negL_set {c : List Int} {j : Nat} (h : j < c.length) : (negL c j).set j (ngw (c.getD j 0)) = negL c (j + 1) := by
  apply List.ext_getElem?
  intro i
  by_cases e : j = i
  · subst e
    rw [List.getElem?_set_self (by rw [negL_len (by omega)]; exact h)]
    unfold negL
    rw [List.getElem?_append_left (by simp; omega), List.getElem?_map, List.getElem?_take_of_lt (by omega), List.getD_eq_getElem?_getD, List.getElem?_eq_getElem h]; rfl
  · rw [List.getElem?_set_ne e]
    unfold negL
    by_cases hi : i < j
    · rw [List.getElem?_append_left (by simp; omega), List.getElem?_append_left (by simp; omega), List.getElem?_map, List.getElem?_map, List.getElem?_take_of_lt hi, List.getElem?_take_of_lt (by omega)]
    · rw [List.getElem?_append_right (by simp; omega), List.getElem?_append_right (by simp; omega), List.getElem?_replicate, List.getElem?_replicate]
      simp only [List.length_map, List.length_take]
      by_cases h3 : i < c.length
      · rw [if_pos (by omega), if_pos (by omega)]
      · rw [if_neg (by omega), if_neg (by omega)]
set_option maxRecDepth 100000 in
set_option maxHeartbeats 3200000 in
theorem oppos_any (v : Value) (c : List Int) (w : World) (hr : Rd w v c) :
    Calls Tryd.prog 26 #[v] w fun e w' => ∃ v', e = .returned v' ∧ Own w.heap.size w' v' (c.map ngw) ∧ Below w.heap.size w w' := by
  have hl := hr.len
  have hmk := run_make_row' (P := Tryd.prog) 25 3 (.int .i64 0) 8 Tryd.underlying25 Tryd.info3 rfl .i64 .i64 c.length (by omega) (by omega)
  obtain ⟨a, cv, rfl, l1, l2, hcell⟩ := hr.form
  have HC : Hid (∀ (W : World) (j : Nat), Below w.heap.size w W → j < c.length → ∃ bb off, a = some ⟨bb, off, none⟩ ∧ W.cell? ⟨bb, off + j, none⟩ = some (.int .i64 (c.getD j 0))) := fun W j hW hj => by
    obtain ⟨bb, off, e, hc⟩ := hcell j hj
    exact ⟨bb, off, e, (hW.cell (p := ⟨bb, off + j, none⟩) (World.block_lt_of_cell? w _ hc)).trans hc⟩
  have HL0 : Hid (Own w.heap.size (w.alloc (.cells (madeCells #[.int .i64 0] c.length) 3)) (.slice (some ⟨w.heap.size, 0, none⟩) c.length c.length) (negL c 0)) := by
    refine ⟨by simp [negL], .inr ⟨w.heap.size, c.length, _, ?_, Nat.le_refl _, World.alloc_heap_new w _, by simp [negL], by unfold maxLen; omega, by rw [made_zero6]; simp, ?_⟩⟩
    · simp [negL]
    · rw [made_zero6]; simp [negL]
  have HB0 : Hid (Below w.heap.size w (w.alloc (.cells (madeCells #[.int .i64 0] c.length) 3))) := below_box _ _
  clear hr hcell
  go_enter Tryd.func26, Tryd.ntmps26
  go_wp2
  go_loopg [11] c.length (fun g j' wr => ∃ (j : Nat), j + g = c.length ∧ j' = .int .i64 j ∧ Own w.heap.size wr (.slice (some ⟨w.heap.size, 0, none⟩) c.length c.length) (negL c j) ∧ Below w.heap.size w wr)
  case atStart => exact ⟨0, by omega, rfl, HL0.out, HB0.out⟩
  case round =>
    obtain ⟨j, hj, rfl, ho, hb⟩ := hrel
    have HJ : Hid (j + gk = c.length) := hj
    have HO : Hid (Own w.heap.size wr (.slice (some ⟨w.heap.size, 0, none⟩) c.length c.length) (negL c j) ∧ Below w.heap.size w wr) := ⟨ho, hb⟩
    clear hj ho hb
    by_cases hlt : j < c.length
    · obtain ⟨bb, off, rfl, c1⟩ := HC.out wr j HO.out.2 hlt
      have HSet : Hid ((negL c j).set j (ngw (c.getD j 0)) = negL c (j + 1)) := negL_set hlt
      have HStep : Hid (∀ l, (negL c j).set j l = negL c (j + 1) → Own w.heap.size (wr.setCell ⟨w.heap.size, j, none⟩ (.int .i64 l)) (.slice (some ⟨w.heap.size, 0, none⟩) c.length c.length) (negL c (j + 1)) ∧ Below w.heap.size w (wr.setCell ⟨w.heap.size, j, none⟩ (.int .i64 l)) ∧ wr.frozen? ⟨w.heap.size, j, none⟩ = false ∧ ∃ z, wr.cell? ⟨w.heap.size, j, none⟩ = some (.int .i64 z)) := fun l hs => by
        have h1 := HO.out.1
        have h1' : wr.ownsRow w.heap.size 3 1 (.slice (some ⟨w.heap.size, 0, none⟩) c.length c.length) c.length ((negL c j).map (Value.int .i64)) := by
          have := h1; unfold Own at this; rw [negL_len (by omega)] at this; exact this
        have h2 := own_cell h1' (k := j) (by omega) (.int .i64 l)
        refine ⟨?_, HO.out.2 |> fun hb => hb.grown (grown_set wr _ _) hb.size (fun k e => by simp at e; omega), row_fz h1' j, ?_⟩
        · unfold Own
          rw [negL_len (by omega), ← hs, List.map_set]
          exact h2
        · obtain ⟨z, hz⟩ : ∃ z, (negL c j)[j]? = some z := ⟨_, List.getElem?_eq_getElem (by rw [negL_len (by omega)]; exact hlt)⟩
          exact ⟨z, row_cell h1' (by rw [List.getElem?_map, hz]; rfl)⟩
      have HLT : Hid (j < c.length) := hlt
      have hng : IntKind.i64.wrap (-(c.getD j 0)) = ngw (c.getD j 0) := rfl
      generalize hz2 : ngw (c.getD j 0) = z2 at *
      clear hz2
      generalize c.getD j 0 = l at *
      obtain ⟨hO1, hB1, hz1, z, hc1⟩ := HStep.out z2 HSet.out
      have HFin : Hid (_ ∧ _) := ⟨hO1, hB1⟩
      clear hO1 hB1 HStep HSet
      go_wp2
      go_roundg (gk - 1)
      case measure => have := HJ.out; have := HLT.out; omega
      case rel => exact ⟨j + 1, by have := HJ.out; have := HLT.out; omega, by go_num, HFin.out.1, HFin.out.2⟩
    · have hje : j = c.length := by have := HJ.out; omega
      rw [hje, negL_all] at HO
      clear hje
      go_wp2
      go_ret
      exact ⟨_, rfl, HO.out.1, HO.out.2⟩
end Go.Proofs.YtgaojmcmpdjfmaaDoor
