/-
  lits.Tidy, Has, Taut, Same: out of Join and of the library's contracts.
-/
import Derived.Test.YtgngdohhlhlcpaaJoin
import Derived.Test.YtgngdohhlhlcpaaShelf
set_option linter.unusedSimpArgs false
set_option linter.unusedVariables false
namespace Go.Proofs.Ytgngdohhlhlcpaa
open Go.RowKit Go.Sort

theorem sortSaid : SortSaid := fun blk off cap zs w h1 h2 h3 => Try.slices_Sort_int blk off cap zs w h1 h2 h3
theorem compactSaid : CompactSaid := fun blk off cap zs w h1 h2 h3 => Try.slices_Compact_int blk off cap zs w h1 h2 h3

theorem tid8 (zs : List Int) : (tid zs).length * 8 ≤ 140737488351232 := by have := tid_len zs; omega

theorem tidy_any (v : Value) (zs : List Int) (w : World) (hr : Rd w v zs) :
    Calls Try.prog 48 #[v] w fun e w' => ∃ v', e = .returned v' ∧ Own w.heap.size w' v' (tid zs) ∧ Below w.heap.size w w' := by
  go_enter Try.func48, Try.ntmps48
  go_wp2_with fail
  refine (join_any sortSaid compactSaid v (.slice none 0 0) zs [] w hr (Rd.nil w)).mono ?_
  rintro e w' ⟨v', rfl, ho, hb⟩
  rw [List.append_nil] at ho
  go_wp2
  go_ret
  exact ⟨_, rfl, ho, hb⟩

theorem contains_any (v : Value) (zs : List Int) (l : Int) (w : World) (hr : Rd w v zs) :
    Calls Try.prog 69 #[v, .int .i64 l] w fun e w' => e = .returned (.bool (zs.contains l)) ∧ w' = w := by
  have hl := hr.len
  rcases hr.cases with ⟨rfl, a, c, rfl, _, _⟩ | ⟨b, off, c, rfl, hpos, hc, hm, hb, hcell⟩
  · exact Try.slices_Contains_int_empty a c l w
  · have := Try.slices_Contains_int b off zs.length c zs l w (Nat.le_refl _) (by omega) hcell
    rw [List.take_length] at this
    exact this

theorem has_any (v : Value) (zs : List Int) (l : Int) (w : World) (hr : Rd w v zs) :
    Calls Try.prog 66 #[v, .int .i64 l] w fun e w' => e = .returned (.bool (fmd l && zs.contains l)) ∧ w' = w := by
  have hc := contains_any v zs l w hr
  have HC : Hid (Calls Try.prog 69 #[v, .int .i64 l] w fun e w' => e = .returned (.bool (zs.contains l)) ∧ w' = w) := hc
  clear hc hr
  generalize zs.contains l = q at *
  cases hf : fmd l
  all_goals
    go_enter Try.func66, Try.ntmps66
    go_wp2_with (first | (go_at_call 55; refine (formed_any _ _).mono ?_; rintro e w' ⟨rfl, hw⟩; subst hw) | (go_at_call 69; refine HC.out.mono ?_; rintro e w' ⟨rfl, hw⟩; subst hw))
    go_ret
    exact ⟨by simp, rfl⟩

/-- two neighbours are opposites -/
def adj : List Int → Bool
  | a :: b :: r => (b == -a) || adj (b :: r)
  | _ => false
theorem adj_iff : ∀ l : List Int, adj l = true ↔ ∃ j, j + 1 < l.length ∧ l.getD (j + 1) 0 = -l.getD j 0
  | [] => by simp [adj]
  | [a] => by simp [adj]
  | a :: b :: r => by
    rw [adj, Bool.or_eq_true, adj_iff (b :: r)]
    constructor
    · rintro (h | ⟨j, h1, h2⟩)
      · exact ⟨0, by simp, by simpa using h⟩
      · exact ⟨j + 1, by simpa using h1, by simpa using h2⟩
    · rintro ⟨j, h1, h2⟩
      cases j with
      | zero => exact .inl (by simpa using h2)
      | succ j => exact .inr ⟨j, by simpa using h1, by simpa using h2⟩
theorem adj_false {l : List Int} (h : ∀ j, j + 1 < l.length → l.getD (j + 1) 0 ≠ -l.getD j 0) : adj l = false := by
  cases hc : adj l with
  | false => rfl
  | true => obtain ⟨j, h1, h2⟩ := (adj_iff l).1 hc; exact absurd h2 (h j h1)
theorem adj_true {l : List Int} {j : Nat} (h1 : j + 1 < l.length) (h2 : l.getD (j + 1) 0 = -l.getD j 0) : adj l = true := (adj_iff l).2 ⟨j, h1, h2⟩

/-- the one ahead of place k; 0 ahead of the first -/
def ahead1 (t : List Int) : Nat → Int
  | 0 => 0
  | k + 1 => t.getD k 0

theorem getD_fmd {zs : List Int} {k : Nat} (h : k < (tid zs).length) : fmd ((tid zs).getD k 0) = true := by
  rw [List.getD_eq_getElem?_getD, List.getElem?_eq_getElem h]
  exact tid_fmd _ (List.getElem_mem h)
theorem ahead1_range {zs : List Int} {k : Nat} (h : k < (tid zs).length) : -1048576 ≤ ahead1 (tid zs) k ∧ ahead1 (tid zs) k ≤ 1048576 := by
  cases k with
  | zero => simp [ahead1]
  | succ k => have := fmd_range (getD_fmd (zs := zs) (k := k) (by omega)); exact this.2

end Go.Proofs.Ytgngdohhlhlcpaa
