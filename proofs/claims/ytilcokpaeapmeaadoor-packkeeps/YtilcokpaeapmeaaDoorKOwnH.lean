/-
  what a list of the call's own holds.
  KEEP: set on app at below new trans refl start ap kept rd rds mono
-/
import Derived.Test.YtilcokpaeapmeaaDoorJGrow
import Derived.Test.YtilcokpaeapmeaaDoorKApp2
import Derived.Test.YtilcokpaeapmeaaDoorShelf
import Derived.Test.YtilcokpaeapmeaaDoorKConcat
import Derived.Test.YtilcokpaeapmeaaDoorKTrW
import Derived.Sort.OwnSortedInts
import Derived.Lib.RowBridge
import Derived.WalkSpells
import Derived.Deep.LoopGhost
import Derived.Deep.RegionLaw
import Derived.Deep.CutRange
import Derived.Deep.RegionHeld
set_option linter.unusedSimpArgs false
set_option linter.unusedVariables false
namespace Go.Proofs.YtilcokpaeapmeaaDoor
open Go Go.RowKit Go.Sort

theorem trown_holds {base : Nat} {w : World} {v : Value} {t : List Int} (h : Own base w v t) (hne : t ≠ []) :
    ∃ g cap, v = .slice (some ⟨g, 0, none⟩) t.length cap ∧ Holds (Value.int .i64) w g 0 t.toArray ∧ g < w.heap.size ∧ base ≤ g ∧ t.length ≤ cap ∧ cap ≤ maxLen := by
  rcases h.2 with ⟨_, hn⟩ | ⟨g, cap, cur, hv, hg, hh, hn, hm, hs, ht⟩
  · exact absurd (List.length_eq_zero_iff.1 hn) hne
  · exact ⟨g, cap, hv, holds_of_blockI hh (by simpa using ht), (Array.getElem?_eq_some_iff.1 hh).1, hg, hn, hm⟩
end Go.Proofs.YtilcokpaeapmeaaDoor
