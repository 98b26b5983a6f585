/-
  rup: isTrue, anyTrue.
  KEEP: set on app at below new trans refl start ap kept rd rds mono lt add none own nil put len pos setF setV putL putR other neV same_any
-/
import Derived.Test.YtgaojmcmpdjfmaaDoorKOnM
set_option linter.unusedSimpArgs false
set_option linter.unusedVariables false
namespace Go.Proofs.YtgaojmcmpdjfmaaDoor
open Go Go.RowKit

/-- is it true? -/
theorem oTrue_z (B : Nat) (b : Nat) (s : Sy) (n N : Nat) (L E : List Int) (F : List Nat) (P : List (Nat × Nat)) (M : List Int) (R : List Nat) (l : Int) (w : World) (hz : Oz B w b s n N (inLs n L) E F P M R) (hn : n ≤ 2097152) (hf : fmd l = true) (hl : idx l < n) :
    Calls Tryd.prog 71 #[.pointer (some ⟨b, 0, none⟩), .int .i64 l] w fun e w' => e = .returned (.bool (decide (l ∈ L))) ∧ Below w.heap.size w w' := by
  obtain ⟨i, hi⟩ : ∃ i : Nat, idx l = i := ⟨(idx l).toNat, by have := idx_range hf; omega⟩
  have hin : i < n := by omega
  obtain ⟨g, c, ei, k1, k2, k3⟩ := row_some hz.i (by omega)
  have c1 := hz.c1
  have hrow := hz.i
  rw [ei] at c1 hrow
  have hc := row_cell hrow (j := i) (x := .bool (decide (l ∈ L))) (by rw [List.getElem?_map, inLs_at hf hi hin]; rfl)
  have HI : Hid (idx l = i) := hi
  clear hz ei hrow hi hl
  generalize decide (l ∈ L) = z at *
  go_enter Tryd.func71, Tryd.ntmps71
  go_upto_region 1 with fail
  go_region_law (go_simp; go_at_call 43; refine (index_any _ _).mono ?_; intro e w9 hh; rw [hh.1, hh.2, HI.out]; clear hh e w9; dsimp only)
  all_goals
    go_wp2
    go_ret
    exact ⟨rfl, (Below.refl _ _).drew⟩
theorem oTrue_any (w0 : World) (b : Nat) (s : Sy) (n : Nat) (css : List (List Int)) (K M : List Int) (R : List Nat) (l : Int) (w : World) (h : Ow w0 w b s n css K M R) (hf : fmd l = true) (hl : idx l < n) :
    Calls Tryd.prog 71 #[.pointer (some ⟨b, 0, none⟩), .int .i64 l] w fun e w' => e = .returned (.bool (decide (l ∈ K ++ M))) ∧ Below w.heap.size w w' := by
  obtain ⟨F, P, hz, -⟩ := h.z
  exact oTrue_z _ b s n _ (K ++ M) _ F P M R l w hz h.fit.hn hf hl
end Go.Proofs.YtgaojmcmpdjfmaaDoor
