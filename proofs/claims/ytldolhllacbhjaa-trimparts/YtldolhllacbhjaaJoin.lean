/-
  lits.Join: the places of both lists' literals, gathered, sorted, made one of each, and turned back.
-/
import Derived.Test.YtldolhllacbhjaaLists
import Derived.Sort.OwnSortedInts
import Derived.Lib.RowBridge
import Derived.WalkSpells
import Derived.Deep.LoopGhost
set_option linter.unusedSimpArgs false
set_option linter.unusedVariables false
namespace Go.Proofs.Ytldolhllacbhjaa
open Go.RowKit Go.Sort

/-- what is gathered behind k of z, p gathered before -/
def gath (p z : List Int) (k : Nat) : List Int := idxs (p ++ z.take k)
theorem gath_zero (p z : List Int) : gath p z 0 = idxs p := by simp [gath]
theorem gath_end (p z : List Int) : gath p z z.length = idxs (p ++ z) := by simp [gath]
theorem gath_len (p z : List Int) (k : Nat) (h : k ≤ z.length) : (gath p z k).length ≤ p.length + k := by
  have := idxs_len (p ++ z.take k)
  simp only [List.length_append, List.length_take] at this
  unfold gath; omega
theorem gath_no {p z : List Int} {k : Nat} (h : k < z.length) (hf : fmd (z.getD k 0) = false) : gath p z (k + 1) = gath p z k := by
  unfold gath; rw [idxs_append, idxs_append, idxs_snoc z k h, hf]; simp
theorem gath_yes {p z : List Int} {k : Nat} (h : k < z.length) (hf : fmd (z.getD k 0) = true) : gath p z (k + 1) = gath p z k ++ [idx (z.getD k 0)] := by
  unfold gath; rw [idxs_append, idxs_append, idxs_snoc z k h, hf]; simp
/-- what is gathered behind k of the two lists -/
def gat (a b : List Int) : Nat → List Int
  | 0 => []
  | 1 => idxs a
  | _ => idxs (a ++ b)

theorem own_snoc {base g cap : Nat} {w : World} {ys : List Int} {x : Int} {n : Nat} (h : w.ownsRow base 3 1 (.slice (some ⟨g, 0, none⟩) (ys.length + 1) cap) (ys.length + 1) (ys.map (Value.int .i64) ++ [.int .i64 x])) :
    Own base w (.slice (some ⟨g, 0, none⟩) (ys ++ [x]).length cap) (ys ++ [x]) := by
  simpa [Own] using h

theorem take_compacted (cur : Array Value) (cs : List Int) (m : Nat) (h : cs.length + m ≤ cur.size) : (putCells (Value.int .i64) 0 (cs ++ List.replicate m 0).toArray cur).toList.take cs.length = cs.map (Value.int .i64) := by
  have h1 := take_putCellsI cur (cs ++ List.replicate m 0) (by simpa using h)
  have h2 : ((putCells (Value.int .i64) 0 (cs ++ List.replicate m 0).toArray cur).toList.take (cs ++ List.replicate m 0).length).take cs.length = ((cs ++ List.replicate m 0).map (Value.int .i64)).take cs.length := by rw [h1]
  rw [List.take_take, Nat.min_eq_left (by simp), ← List.map_take, List.take_left] at h2
  exact h2
/-- behind Compact the same row owns what is left -/
theorem own_compacted {w : World} {base g cap q : Nat} {ts : List Int} (h : w.ownsRow base 3 1 (.slice (some ⟨g, 0, none⟩) ts.length cap) ts.length (ts.map (Value.int .i64))) :
    Own base (putRow (Value.int .i64) (Sort.ahead w q) g 0 (Lib.compact ts ++ List.replicate (ts.length - (Lib.compact ts).length) 0).toArray) (.slice (some ⟨g, 0, none⟩) (Lib.compact ts).length cap) (Lib.compact ts) ∧
      w.grownBy (putRow (Value.int .i64) (Sort.ahead w q) g 0 (Lib.compact ts ++ List.replicate (ts.length - (Lib.compact ts).length) 0).toArray) (some g) := by
  have hcl := Lib.compact_length_le ts
  have hgr := grownBy_sortedI (w := w) (g := g) (n := q) (os := #[]) (Lib.compact ts ++ List.replicate (ts.length - (Lib.compact ts).length) 0).toArray
  rw [grow_empty] at hgr
  refine ⟨?_, hgr⟩
  rcases h.2 with ⟨h', _⟩ | ⟨g', cap', cur, h', hb, hg, hnc, hcm, hcs, htake⟩
  · simp at h'
  · simp only [Value.slice.injEq, Option.some.injEq, Addr.mk.injEq, and_true, true_and] at h'
    obtain ⟨rfl, rfl⟩ := h'
    have hh := heap_sortedI (n := q) (os := #[]) (Lib.compact ts ++ List.replicate (ts.length - (Lib.compact ts).length) 0).toArray hg
    rw [grow_empty] at hh
    refine ⟨by simp, .inr ⟨g, cap, _, rfl, hb, hh, by omega, hcm, by simp [putCells, hcs], ?_⟩⟩
    rw [Nat.mul_one]
    exact take_compacted cur _ _ (by omega)

/-- the first k turned back -/
def part (cs : List Int) (k : Nat) : List Int := (cs.take k).map litAt ++ cs.drop k
theorem part_zero (cs : List Int) : part cs 0 = cs := by simp [part]
theorem part_end (cs : List Int) : part cs cs.length = cs.map litAt := by simp [part]
theorem part_get (cs : List Int) (k : Nat) (h : k < cs.length) : (part cs k)[k]? = some (cs.getD k 0) := by
  unfold part
  rw [List.getElem?_append_right (by simp; omega)]
  simp [List.getD_eq_getElem?_getD, List.getElem?_eq_getElem h, Nat.min_eq_left (Nat.le_of_lt h)]
theorem part_set (cs : List Int) (k : Nat) (h : k < cs.length) : (part cs k).set k (litAt (cs.getD k 0)) = part cs (k + 1) := by
  unfold part
  have hk : (List.map litAt (List.take k cs)).length = k := by simp; omega
  rw [List.set_append_right _ _ (by omega), List.take_succ_eq_append_getElem h, List.drop_eq_getElem_cons h, hk, Nat.sub_self, List.set_cons_zero, List.map_append, List.append_assoc]
  congr 1
  simp only [List.map_cons, List.map_nil, List.singleton_append, List.getD_eq_getElem?_getD, List.getElem?_eq_getElem h, Option.getD_some]

end Go.Proofs.Ytldolhllacbhjaa
