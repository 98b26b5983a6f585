/-
  CopyBools, walked.
-/
import Derived.Test.YtlkbbbbclmffjaaGreatDoorJTruth
import Derived.Deep.LoopGhost
import Derived.Laws.OwnMore
import Derived.Lib.Hide
set_option linter.unusedSimpArgs false
set_option linter.unusedVariables false
namespace Go.Proofs.YtlkbbbbclmffjaaGreatDoor
open Go Go.RowKit

theorem infoBo : (Tryz.prog.info? 4).map (fun i => (i.zero, i.size, i.bytes)) = some (some (.bool false), 1, 1) := by kernel_rfl
/-- a list of truths of the call's own -/
def OwnBo (base : Nat) (w : World) (v : Value) (ms : List Bool) : Prop := w.ownsRow base 4 1 v ms.length (ms.map Value.bool)
theorem OwnBo.one {base : Nat} {w : World} {v : Value} {ms : List Bool} {b : Bool} (h : w.ownsRow base 4 1 v (ms.length + 1) (ms.map Value.bool ++ [.bool b])) : OwnBo base w v (ms ++ [b]) := by
  unfold OwnBo; simpa using h
theorem OwnBo.rd {base : Nat} {w : World} {v : Value} {ms : List Bool} (h : OwnBo base w v ms) (hl : ms.length ≤ 140737488351232) : RdB w v ms := by
  rcases h.2 with ⟨rfl, h0⟩ | ⟨g, cap, cur, rfl, hb, hg, hn, hc, hs, ht⟩
  · have : ms = [] := List.length_eq_zero_iff.1 h0
    subst this; exact RdB.nil w
  · refine ⟨hl, some ⟨g, 0, none⟩, cap, rfl, fun hne => ⟨g, 0, rfl, (Array.getElem?_eq_some_iff.1 hg).1, fun k hk => ?_⟩⟩
    have h' : w.ownsRow base 4 1 (.slice (some ⟨g, 0, none⟩) ms.length cap) ms.length (ms.map Value.bool) := h
    rw [Nat.zero_add, World.ownsRow.cellAt h' k (by omega)]
    simp [List.getD_eq_getElem?_getD, hk]

end Go.Proofs.YtlkbbbbclmffjaaGreatDoor
