/-
  lits.Tidy, Has, Taut, Same: out of Join and of the library's contracts.
-/
import Derived.Test.YtfklgfdkpmfdnaaDoorJoin
import Derived.Test.YtfklgfdkpmfdnaaDoorShelf
set_option linter.unusedSimpArgs false
set_option linter.unusedVariables false
namespace Go.Proofs.YtfklgfdkpmfdnaaDoor
open Go.RowKit Go.Sort

theorem sortSaid : SortSaid := fun blk off cap zs w h1 h2 h3 => Tryd.slices_Sort_int blk off cap zs w h1 h2 h3
theorem compactSaid : CompactSaid := fun blk off cap zs w h1 h2 h3 => Tryd.slices_Compact_int blk off cap zs w h1 h2 h3

theorem tid8 (zs : List Int) : (tid zs).length * 8 ≤ 140737488351232 := by have := tid_len zs; omega

theorem tidy_any (v : Value) (zs : List Int) (w : World) (hr : Rd w v zs) :
    Calls Tryd.prog 45 #[v] w fun e w' => ∃ v', e = .returned v' ∧ Own w.heap.size w' v' (tid zs) ∧ Below w.heap.size w w' := by
  go_enter Tryd.func45, Tryd.ntmps45
  go_wp2_with fail
  refine (join_any sortSaid compactSaid v (.slice none 0 0) zs [] w hr (Rd.nil w)).mono ?_
  rintro e w' ⟨v', rfl, ho, hb⟩
  rw [List.append_nil] at ho
  go_wp2
  go_ret
  exact ⟨_, rfl, ho, hb⟩

/-- two neighbours are opposites -/
def adj : List Int → Bool
  | a :: b :: r => (b == -a) || adj (b :: r)
  | _ => false
theorem adj_iff : ∀ l : List Int, adj l = true ↔ ∃ j, j + 1 < l.length ∧ l.getD (j + 1) 0 = -l.getD j 0
  | [] => by simp [adj]
  | [a] => by simp [adj]
  | a :: b :: r => by
    rw [adj, Bool.or_eq_true, adj_iff (b :: r)]
    constructor
    · rintro (h | ⟨j, h1, h2⟩)
      · exact ⟨0, by simp, by simpa using h⟩
      · exact ⟨j + 1, by simpa using h1, by simpa using h2⟩
    · rintro ⟨j, h1, h2⟩
      cases j with
      | zero => exact .inl (by simpa using h2)
      | succ j => exact .inr ⟨j, by simpa using h1, by simpa using h2⟩
theorem adj_false {l : List Int} (h : ∀ j, j + 1 < l.length → l.getD (j + 1) 0 ≠ -l.getD j 0) : adj l = false := by
  cases hc : adj l with
  | false => rfl
  | true => obtain ⟨j, h1, h2⟩ := (adj_iff l).1 hc; exact absurd h2 (h j h1)
theorem adj_true {l : List Int} {j : Nat} (h1 : j + 1 < l.length) (h2 : l.getD (j + 1) 0 = -l.getD j 0) : adj l = true := (adj_iff l).2 ⟨j, h1, h2⟩

/-- the one ahead of place k; 0 ahead of the first -/
def ahead1 (t : List Int) : Nat → Int
  | 0 => 0
  | k + 1 => t.getD k 0

theorem getD_fmd {zs : List Int} {k : Nat} (h : k < (tid zs).length) : fmd ((tid zs).getD k 0) = true := by
  rw [List.getD_eq_getElem?_getD, List.getElem?_eq_getElem h]
  exact tid_fmd _ (List.getElem_mem h)
theorem ahead1_range {zs : List Int} {k : Nat} (h : k < (tid zs).length) : -1048576 ≤ ahead1 (tid zs) k ∧ ahead1 (tid zs) k ≤ 1048576 := by
  cases k with
  | zero => simp [ahead1]
  | succ k => have := fmd_range (getD_fmd (zs := zs) (k := k) (by omega)); exact this.2

theorem taut_any (v : Value) (zs : List Int) (w : World) (hr : Rd w v zs) :
    Calls Tryd.prog 46 #[v] w fun e w' => e = .returned (.bool (adj (tid zs))) ∧ Below w.heap.size w w' := by
  have HT : Hid (Calls Tryd.prog 45 #[v] w fun e w' => ∃ v', e = .returned v' ∧ Own w.heap.size w' v' (tid zs) ∧ Below w.heap.size w w') := tidy_any v zs w hr
  have hl := tid_len zs
  have HF : Hid (∀ k, k < (tid zs).length → fmd ((tid zs).getD k 0) = true) := fun k h => getD_fmd h
  have HR : Hid (∀ k, k < (tid zs).length → -1048576 ≤ ahead1 (tid zs) k ∧ ahead1 (tid zs) k ≤ 1048576) := fun k h => ahead1_range h
  clear hr
  generalize tid zs = t at *
  go_enter Tryd.func46, Tryd.ntmps46
  go_wp2_with fail
  refine HT.out.mono ?_
  rintro e w1 ⟨v1, rfl, own, bel⟩
  have hrd := own.rd (by omega)
  clear own HT
  rcases hrd.cases with ⟨rfl, a, c, rfl, _, _⟩ | ⟨b, off, c, rfl, hpos, hc, hm, hb, hcell⟩
  · go_wp2
    refine wp_loop_rounds 1 ?_
    rw [rounds_succ]
    go_wp2
    go_ret
    exact ⟨rfl, bel⟩
  · have HC : Hid (∀ j, j < t.length → w1.cell? ⟨b, off + j, none⟩ = some (.int .i64 (t.getD j 0))) := hcell
    clear hcell hrd
    go_wp2
    go_loopg [3, 9] t.length (fun g l i wr => ∃ k : Nat, k + g = t.length ∧ i = .int .i64 k ∧ l = .int .i64 (ahead1 t k) ∧ (∀ j, j + 1 < k → t.getD (j + 1) 0 ≠ -t.getD j 0) ∧ wr = w1)
    case atStart => exact ⟨0, by omega, rfl, rfl, fun j h => absurd h (by omega), rfl⟩
    case round =>
      obtain ⟨k, hk, rfl, rfl, hno, rfl⟩ := hrel
      have HN : Hid (∀ j, j + 1 < k → t.getD (j + 1) 0 ≠ -t.getD j 0) := hno
      have HK : Hid (k + gk = t.length) := hk
      clear hno
      by_cases hlt : k < t.length
      · have hck := HC.out k hlt
        obtain ⟨r1, r2⟩ := HR.out k hlt
        have hz := fmd_range (HF.out k hlt)
        have hz1 := hz.2.1
        have hz2 := hz.2.2
        by_cases he : t.getD k 0 = -ahead1 t k
        · have hk1 : 0 < k := by
            rcases Nat.eq_zero_or_pos k with e | e
            · subst e; exfalso; rw [show ahead1 t 0 = 0 from rfl] at he; exact hz.1 (by simpa using he)
            · exact e
          have HA : Hid (adj t = true) := by
            obtain ⟨m, rfl⟩ : ∃ m, k = m + 1 := ⟨k - 1, by omega⟩
            exact adj_true hlt he
          have hb1 : (t.getD k 0 == -ahead1 t k) = true := beq_iff_eq.2 he
          clear he hz hk
          generalize t.getD k 0 = z at *
          generalize ahead1 t k = y at *
          go_wp2
          go_ret
          exact ⟨ret_bool HA.out.symm, bel⟩
        · have hb1 : (t.getD k 0 == -ahead1 t k) = false := beq_eq_false_iff_ne.2 he
          have HE : Hid (t.getD k 0 ≠ -ahead1 t k) := he
          have HAH : Hid (ahead1 t (k + 1) = t.getD k 0) := rfl
          clear he hz hk
          generalize hgz : t.getD k 0 = z at *
          generalize hgy : ahead1 t k = y at *
          have HZ : Hid (t.getD k 0 = z) := hgz
          have HY : Hid (ahead1 t k = y) := hgy
          clear hgz hgy
          go_wp2
          go_roundg (gk - 1)
          case measure => have := HK.out; omega
          case rel =>
            refine ⟨k + 1, by have := HK.out; omega, by go_num, by rw [HAH.out], fun j hj => ?_, rfl⟩
            by_cases hjk : j + 1 < k
            · exact HN.out j hjk
            · obtain rfl : k = j + 1 := by omega
              rw [HZ.out, show t.getD j 0 = y from HY.out]
              exact HE.out
      · obtain rfl : k = t.length := by omega
        have HA : Hid (adj t = false) := adj_false HN.out
        clear hk
        go_wp2
        go_ret
        exact ⟨ret_bool HA.out.symm, bel⟩

end Go.Proofs.YtfklgfdkpmfdnaaDoor
