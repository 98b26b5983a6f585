/-
  From a row's reading of a formula (a struct by value, or a part of one) to what it reads.
-/
import Derived.Test.YtilcokpaeapmeaaDoorJForms
import Derived.Test.YtilcokpaeapmeaaDoorKOpen
import Derived.Deep.Matrix
import Derived.ChangeSame
set_option linter.unusedVariables false
set_option linter.unusedSimpArgs false
namespace Go.Proofs.YtilcokpaeapmeaaDoor
open Go.RowKit Go.ChangeShapes Go.WideShapes Go.Deep

theorem Tryd.bytes58 : Tryd.prog.bytesOf 58 = 24 := by kernel_rfl
theorem array2 {α : Type} {cs : Array α} (h : cs.size = 2) : ∃ c0 c1, cs = #[c0, c1] := by
  obtain ⟨l⟩ := cs
  match l, h with
  | [c0, c1], _ => exact ⟨c0, c1, rfl⟩
theorem mem_weightsAll {H : Type} {P : Program} {e : TypeId} : ∀ {l : List (DataW H)} {d : DataW H} {n : Nat}, d ∈ l → n ∈ d.weights P e → n ∈ DataW.weightsAll P e l
  | x :: r, d, n, hd, hn => by
    unfold DataW.weightsAll
    rcases List.mem_cons.1 hd with rfl | hd
    · exact List.mem_append.2 (.inl hn)
    · exact List.mem_append.2 (.inr (mem_weightsAll hd hn))

set_option maxRecDepth 100000 in
/-- a [][]int whose reading lies within the reach -/
theorem rds_of_trod {H : Type} {enc : TypeId × Value → H} {W : World} {fuel : Nat} {c : Value} {y : DataW H × List MemPlace}
    (h : DataW.trod enc Tryd.prog W 0 (fun _ => true) true fuel 23 [c] = some y) (hs : ∀ n ∈ y.1.weights Tryd.prog 23, n ≤ reachBytes) : ∃ css, Rds W c css := by
  rcases open_int_rows Tryd.underlying23 Tryd.underlying58 Tryd.underlying3 (by kernel_rfl) (by kernel_rfl) h with ⟨hcs, _⟩ | ⟨a, len, cap, A, L, C, Z, hcs, _, hl, hm, hx, hrow⟩
  · simp at hcs; subst hcs; exact ⟨[], Rds.nil _⟩
  simp at hcs; subst hcs
  subst hx
  have hw0 : cap * 24 ≤ 140737488351232 := by
    have := hs ((((List.range len).map fun r => intRow (H := H) .i64 (A r) (L r) (Z r)).length + ((List.range (cap - len)).map fun j => intRow (H := H) .i64 (A (len + j)) (L (len + j)) (Z (len + j))).length) * Tryd.prog.bytesOf 58) (by
      unfold DataW.weights; rw [Tryd.underlying23]; exact List.mem_cons_self ..)
    rw [Tryd.bytes58] at this
    simp [reachBytes] at this
    omega
  have hw1 : ∀ r, r < len → ∀ a', A r = some a' → C r * 8 ≤ 140737488351232 := by
    intro r hr a' ha
    have hz := (hrow r (by omega)).2.2.2.1
    have hL := (hrow r (by omega)).2.1
    have := hs (((lits (H := H) .i64 ((Z r).take (L r))).length + (lits (H := H) .i64 ((Z r).drop (L r))).length) * Tryd.prog.bytesOf 3) (by
      unfold DataW.weights; rw [Tryd.underlying23]
      refine List.mem_cons_of_mem _ (List.mem_append.2 (.inl (mem_weightsAll (d := intRow .i64 (A r) (L r) (Z r)) (List.mem_map.2 ⟨r, List.mem_range.2 hr, rfl⟩) ?_)))
      rw [ha]; unfold intRow DataW.weights; rw [Tryd.underlying58]; exact List.mem_cons_self ..)
    rw [Tryd.bytes3] at this
    simp [lits, reachBytes] at this
    omega
  refine ⟨(List.range len).map fun r => (Z r).take (L r), by simp; omega, some a, cap, by simp, by simpa using hl, hm, fun h => (by cases h), fun hne => ?_⟩
  have hp : 0 < len := by
    rcases Nat.eq_zero_or_pos len with h | h
    · subst h; simp at hne
    · exact h
  obtain ⟨b, off, spot⟩ := a
  have hspot : spot = none := by simpa [Addr.add] using World.cell?_spot (hrow 0 (by omega)).1
  subst hspot
  have hc : ∀ j, j < cap → W.cell? ⟨b, off + j, none⟩ = some (.slice (A j) (L j) (C j)) := fun j hj => by have := (hrow j hj).1; rwa [Addr.add_lit] at this
  refine ⟨b, off, rfl, World.block_lt_of_cell? W ⟨b, off + 0, none⟩ (hc 0 (by omega)), fun j hj => ?_⟩
  have hj' : j < len := by simpa using hj
  refine ⟨_, hc j (by omega), ?_⟩
  have e0 : ((List.range len).map fun r => (Z r).take (L r)).getD j [] = (Z j).take (L j) := by simp [List.getD_eq_getElem?_getD, hj']
  rw [e0]
  obtain ⟨_, hL, hC, hz, _, hnone, hcell⟩ := hrow j (by omega)
  have e : ((Z j).take (L j)).length = L j := by simp; omega
  cases hA : A j with
  | none =>
    have h0 := hnone hA
    have hL0 : L j = 0 := by omega
    rw [h0, hL0]; simp; exact Rd.nil W
  | some a' =>
    have h8 := hw1 j hj' a' hA
    have hcell' := (hcell a' hA).2
    refine ⟨by rw [e]; omega, _, C j, by rw [e], by rw [e]; omega, hC, fun h => (by cases h), fun hne2 => ?_⟩
    have hp2 : 0 < L j := by
      rcases Nat.eq_zero_or_pos (L j) with h | h
      · rw [h] at hne2; simp at hne2
      · exact h
    obtain ⟨b', off', rfl, hc'⟩ := ints_at (zs := Z j) (fun i hi => hcell' i (by omega)) (by omega)
    refine ⟨b', off', rfl, World.block_lt_of_cell? W ⟨b', off' + 0, none⟩ (hc' 0 (by omega)), fun i hi => ?_⟩
    rw [e] at hi
    rw [hc' i (by omega)]
    simp [List.getD_eq_getElem?_getD, List.getElem?_take, hi]

theorem all_le_of {H : Type} {P : Program} {ts : List TypeId} {ds : List (DataW H)} (h : (DataW.weightsEach P ts ds).all (· ≤ reachBytes) = true) {j : Nat} {t : TypeId} {d : DataW H} (ht : ts[j]? = some t) (hd : ds[j]? = some d) : ∀ n ∈ d.weights P t, n ≤ reachBytes := fun n hn => by
  have := List.all_eq_true.1 h n (DataW.weights_mem_each ht hd n hn)
  simpa using this

end Go.Proofs.YtilcokpaeapmeaaDoor
