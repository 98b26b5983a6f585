/-
  unit: holds, meets, put, takeBack.
  KEEP: set on app at below new trans refl start ap kept rd rds mono lt add none own nil put len pos setF setV putL putR other neV same_any
-/
import Derived.Test.YtijhabhbeambeaaDoorUnM
set_option linter.unusedSimpArgs false
set_option linter.unusedVariables false
namespace Go.Proofs.YtijhabhbeambeaaDoor
open Go Go.RowKit

theorem uMeets_any (w0 : World) (b : Nat) (s : Sz) (n : Nat) (X : List (List Int)) (L : List Int) (Q : Nat → Bool) (cs : List (Int × Nat)) (l : Int) (w : World) (h : Cw w0 w b s n X L Q cs) :
    Calls Tryd.prog 55 #[.pointer (some ⟨b, 0, none⟩), .int .i64 l] w fun e w' => e = .returned (.bool (decide (idx l < n))) ∧ Below w.heap.size w w' := by
  obtain ⟨F, P, hz, -⟩ := h.z
  have hn := h.fit.hn
  obtain ⟨a, c, ei⟩ := row_form' hz.i
  have c1 := hz.c1
  rw [ei] at c1
  clear hz h ei
  go_enter Tryd.func55, Tryd.ntmps55
  go_upto_region 1 with fail
  go_region_law (go_simp; go_at_call 56; refine (index_any _ _).mono ?_; intro e w9 hh; rw [hh.1, hh.2]; clear hh e w9; dsimp only)
  all_goals
    go_wp2
    go_ret
    exact ⟨rfl, (Below.refl _ _).drew⟩
theorem uHolds_any (w0 : World) (b : Nat) (s : Sz) (n : Nat) (X : List (List Int)) (L : List Int) (Q : Nat → Bool) (cs : List (Int × Nat)) (l : Int) (w : World) (h : Cw w0 w b s n X L Q cs) (hf : fmd l = true) (hl : idx l < n) :
    Calls Tryd.prog 54 #[.pointer (some ⟨b, 0, none⟩), .int .i64 l] w fun e w' => e = .returned (.bool (decide (l ∈ L))) ∧ Below w.heap.size w w' := by
  obtain ⟨F, P, hz, -⟩ := h.z
  have hn := h.fit.hn
  obtain ⟨i, hi⟩ : ∃ i : Nat, idx l = i := ⟨(idx l).toNat, by have := idx_range hf; omega⟩
  have hin : i < n := by omega
  obtain ⟨g, c, ei, k1, k2, k3⟩ := row_some hz.i (by omega)
  have c1 := hz.c1
  have hrow := hz.i
  rw [ei] at c1 hrow
  have hc := row_cell hrow (j := i) (x := .bool (decide (l ∈ L))) (by rw [List.getElem?_map, inLs_at hf hi hin]; rfl)
  have HI : Hid (idx l = i) := hi
  clear hz h ei hrow hi hl
  generalize decide (l ∈ L) = z at *
  go_enter Tryd.func54, Tryd.ntmps54
  go_upto_region 1 with fail
  go_region_law (go_simp; go_at_call 56; refine (index_any _ _).mono ?_; intro e w9 hh; rw [hh.1, hh.2, HI.out]; clear hh e w9; dsimp only)
  all_goals
    go_wp2
    go_ret
    exact ⟨rfl, (Below.refl _ _).drew⟩
end Go.Proofs.YtijhabhbeambeaaDoor
