/-
  From a row's reading of a []int argument to what it reads.
-/
import Derived.Test.YtmfcaoacklbkoaaDoorLists
import Derived.ProofKit
import Derived.OpenShut
import Derived.SizedLaws
set_option linter.unusedVariables false
set_option linter.unusedSimpArgs false
namespace Go.Proofs.YtmfcaoacklbkoaaDoor
open Go.RowKit Go.ChangeShapes

theorem Tryd.bytes3 : Tryd.prog.bytesOf 3 = 8 := by kernel_rfl

theorem Rd.opened {H : Type} {W : World} {x : Addr} {len cap : Nat} {zs : List Int} (hl : len ≤ cap) (hm : cap ≤ maxLen) (hz : zs.length = cap)
    (hs : ((lits (H := H) .i64 (zs.take len)).length + (lits (H := H) .i64 (zs.drop len)).length) * Tryd.prog.bytesOf 3 ≤ reachBytes)
    (hcell : ∀ i, i < zs.length → W.cell? (x.add i) = some (.int .i64 (zs.getD i 0))) : Rd W (.slice (some x) len cap) (zs.take len) := by
  rw [Tryd.bytes3] at hs
  have hr : cap * 8 ≤ 140737488351232 := by
    simp [lits, reachBytes] at hs
    omega
  have e : (zs.take len).length = len := by simp; omega
  refine ⟨by rw [e]; omega, _, cap, by rw [e], by rw [e]; omega, hm, fun h => (by cases h), fun hne => ?_⟩
  have hp : 0 < len := by
    rcases Nat.eq_zero_or_pos len with h | h
    · subst h; simp at hne
    · exact h
  obtain ⟨b, off, rfl, hc⟩ := ints_at hcell (by omega)
  refine ⟨b, off, rfl, World.block_lt_of_cell? W ⟨b, off + 0, none⟩ (hc 0 (by omega)), fun j hj => ?_⟩
  rw [e] at hj
  rw [hc j (by omega)]
  simp [List.getD_eq_getElem?_getD, List.getElem?_take, hj]

end Go.Proofs.YtmfcaoacklbkoaaDoor
