/-
  From a row's reading of a []bool argument to what it reads.
-/
import Derived.Test.YtlkbbbbclmffjaaGreatDoorJTruth
import Derived.Test.YtlkbbbbclmffjaaGreatDoorKOpen
import Derived.Deep.Grids
set_option linter.unusedVariables false
set_option linter.unusedSimpArgs false
namespace Go.Proofs.YtlkbbbbclmffjaaGreatDoor
open Go.RowKit Go.ChangeShapes Go.Deep

theorem Tryz.bytes4 : Tryz.prog.bytesOf 4 = 1 := by kernel_rfl

theorem RdB.opened {H : Type} {W : World} {x : Addr} {len cap : Nat} {B : Nat → Bool} (hl : len ≤ cap)
    (hs : cap * Tryz.prog.bytesOf 4 ≤ reachBytes)
    (hcell : ∀ i, i < cap → W.cell? (x.add i) = some (.bool (B i))) : RdB W (.slice (some x) len cap) ((List.range len).map B) := by
  rw [Tryz.bytes4] at hs
  have hr : cap ≤ 140737488351232 := by simpa [reachBytes] using hs
  have e : ((List.range len).map B).length = len := by simp
  refine ⟨by rw [e]; omega, _, cap, by rw [e], fun hne => ?_⟩
  have hp : 0 < len := by
    rcases Nat.eq_zero_or_pos len with h | h
    · subst h; simp at hne
    · exact h
  obtain ⟨b, off, spot⟩ := x
  have hspot : spot = none := by simpa [Addr.add] using World.cell?_spot (hcell 0 (by omega))
  subst hspot
  have hc : ∀ j, j < cap → W.cell? ⟨b, off + j, none⟩ = some (.bool (B j)) := fun j hj => by have := hcell j hj; rwa [Addr.add_lit] at this
  refine ⟨b, off, rfl, World.block_lt_of_cell? W ⟨b, off + 0, none⟩ (hc 0 (by omega)), fun j hj => ?_⟩
  rw [e] at hj
  rw [hc j (by omega)]
  simp [List.getD_eq_getElem?_getD, hj]

end Go.Proofs.YtlkbbbbclmffjaaGreatDoor
