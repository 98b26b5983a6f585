/-
  what a list of the call's own holds.
  KEEP: set on app at below new trans refl start ap kept rd rds mono
-/
import Derived.Test.YtbhjpahieghepaaGrow
import Derived.Test.YtbhjpahieghepaaApp2
import Derived.Test.YtbhjpahieghepaaShelf
import Derived.Test.YtbhjpahieghepaaConcat
import Derived.Sort.OwnSortedInts
import Derived.Lib.RowBridge
import Derived.WalkSpells
import Derived.Deep.LoopGhost
import Derived.Deep.RegionLaw
import Derived.Deep.CutRange
import Derived.Deep.RegionHeld
set_option linter.unusedSimpArgs false
set_option linter.unusedVariables false
namespace Go.Proofs.Ytbhjpahieghepaa
open Go Go.RowKit Go.Sort

theorem trown_holds {base : Nat} {w : World} {v : Value} {t : List Int} (h : Own base w v t) (hne : t ≠ []) :
    ∃ g cap, v = .slice (some ⟨g, 0, none⟩) t.length cap ∧ Holds (Value.int .i64) w g 0 t.toArray ∧ g < w.heap.size ∧ base ≤ g ∧ t.length ≤ cap ∧ cap ≤ maxLen := by
  rcases h.2 with ⟨_, hn⟩ | ⟨g, cap, cur, hv, hg, hh, hn, hm, hs, ht⟩
  · exact absurd (List.length_eq_zero_iff.1 hn) hne
  · exact ⟨g, cap, hv, holds_of_blockI hh (by simpa using ht), (Array.getElem?_eq_some_iff.1 hh).1, hg, hn, hm⟩
theorem set_heap {w : World} {g : Nat} {c : Array Value} {e : TypeId} {f : Nat × Nat} (h : w.heap[g]? = some (.cells c e f)) (k : Nat) (v : Value) : (w.setCell ⟨g, k, none⟩ v).heap[g]? = some (.cells (c.setIfInBounds k v) e f) := by
  obtain ⟨hlt, hk⟩ := Array.getElem?_eq_some_iff.1 h
  show (w.heap.modify g _)[g]? = _
  rw [Array.getElem?_eq_getElem (by rw [Array.size_modify]; exact hlt), Array.getElem_modify_self, hk]
  rfl
theorem own_cell {w : World} {base e size n g cap k : Nat} {xs : List Value} (h : w.ownsRow base e size (.slice (some ⟨g, 0, none⟩) n cap) n xs) (hk : k < n * size) (x : Value) :
    (w.setCell ⟨g, k, none⟩ x).ownsRow base e size (.slice (some ⟨g, 0, none⟩) n cap) n (xs.set k x) := by
  rcases h.2 with ⟨e1, _⟩ | ⟨g', cap', cur, hv, hb, hg, h1, h2, h3, h4⟩
  · simp at e1
  · injection hv with ha _ hc
    injection ha with ha; injection ha with ha; subst ha; subst hc
    refine ⟨by rw [List.length_set]; exact h.1, .inr ⟨g, cap, cur.setIfInBounds k x, rfl, hb, ?_, h1, h2, by simpa using h3, ?_⟩⟩
    · exact set_heap hg k x
    · rw [Array.toList_setIfInBounds, List.take_set, h4]
end Go.Proofs.Ytbhjpahieghepaa
