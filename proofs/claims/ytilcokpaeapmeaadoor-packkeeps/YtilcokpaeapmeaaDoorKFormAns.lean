/-
  A call that answers a formula and an error: its boxes, its return.
-/
import Derived.Test.YtilcokpaeapmeaaDoorJGrow
import Derived.Laws.ResultCell
import Derived.Laws.OwnMore
set_option linter.unusedSimpArgs false
set_option linter.unusedVariables false
namespace Go.Proofs.YtilcokpaeapmeaaDoor
open Go.RowKit

theorem OwnF.set {B : Nat} {W : World} {s : Value} {css : List (List Int)} {D : Nat} {t : TypeId} {x y : Value} (h : OwnF B W s css) (hb : Bx2 W D t x y) (h1 : t ≠ 58) (h2 : t ≠ 3) (o : Nat) (v : Value) : OwnF B (W.setCell ⟨D, o, none⟩ v) s css := by
  obtain ⟨L, h, e⟩ := h; exact ⟨L, h.set hb h1 h2 o v, e⟩
theorem below_set {w W : World} {D : Nat} (h : Below w.heap.size w W) (hD : w.heap.size ≤ D) (o : Nat) (v : Value) : Below w.heap.size w (W.setCell ⟨D, o, none⟩ v) := h.setCell (p := ⟨D, o, none⟩) hD v

theorem infoR : (Tryd.prog.info? 58).map (fun i => (i.zero, i.size, i.bytes)) = some (some (.slice none 0 0), 1, 24) := by kernel_rfl
end Go.Proofs.YtilcokpaeapmeaaDoor
