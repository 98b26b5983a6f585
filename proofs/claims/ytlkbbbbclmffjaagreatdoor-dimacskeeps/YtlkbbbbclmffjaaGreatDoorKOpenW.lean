/-
  How much a formula holds, where its reading is of small bulk.
-/
import Derived.Test.YtlkbbbbclmffjaaGreatDoorKOpenU
set_option linter.unusedVariables false
set_option linter.unusedSimpArgs false
namespace Go.Proofs.YtlkbbbbclmffjaaGreatDoor
open Go.RowKit Go.ChangeShapes Go.WideShapes Go.Deep

/-- how many literals there are -/
def litsN (css : List (List Int)) : Nat := (css.map List.length).sum
theorem bulk_map {H : Type} (g : Nat → Nat) (f : Nat → DataW H) : ∀ l : List Nat, (∀ r ∈ l, g r + 1 ≤ Rows.uptoBulk (f r)) → l.length + (l.map g).sum ≤ Rows.uptoBulkAll (l.map f)
  | [], _ => by simp
  | r :: l, h => by
    have h1 := h r (List.mem_cons_self ..)
    have h2 := bulk_map g f l (fun x hx => h x (List.mem_cons_of_mem _ hx))
    simp only [List.length_cons, List.map_cons, List.sum_cons, Rows.uptoBulkAll]
    omega

set_option maxRecDepth 100000 in
/-- a [][]int whose reading lies within the reach, and how much it holds at most -/
theorem rds_bulk {H : Type} {enc : TypeId × Value → H} {W : World} {fuel : Nat} {c : Value} {y : DataW H × List MemPlace}
    (h : DataW.trod enc Tryz.prog W 0 (fun _ => true) true fuel 22 [c] = some y) (hs : ∀ n ∈ y.1.weights Tryz.prog 22, n ≤ reachBytes) : ∃ css, Rds W c css ∧ css.length + litsN css ≤ Rows.uptoBulk y.1 := by
  rcases open_int_rows Tryz.underlying22 Tryz.underlying43 Tryz.underlying3 (by kernel_rfl) (by kernel_rfl) h with ⟨hcs, _⟩ | ⟨a, len, cap, A, L, C, Z, hcs, _, hl, hm, hx, hrow⟩
  · simp at hcs; subst hcs; exact ⟨[], Rds.nil _, by simp [litsN]⟩
  simp at hcs; subst hcs
  subst hx
  have hw0 : cap * 24 ≤ 140737488351232 := by
    have := hs ((((List.range len).map fun r => intRow (H := H) .i64 (A r) (L r) (Z r)).length + ((List.range (cap - len)).map fun j => intRow (H := H) .i64 (A (len + j)) (L (len + j)) (Z (len + j))).length) * Tryz.prog.bytesOf 43) (by
      unfold DataW.weights; rw [Tryz.underlying22]; exact List.mem_cons_self ..)
    rw [Tryz.bytes43] at this
    simp [reachBytes] at this
    omega
  have hw1 : ∀ r, r < len → ∀ a', A r = some a' → C r * 8 ≤ 140737488351232 := by
    intro r hr a' ha
    have hz := (hrow r (by omega)).2.2.2.1
    have hL := (hrow r (by omega)).2.1
    have := hs (((lits (H := H) .i64 ((Z r).take (L r))).length + (lits (H := H) .i64 ((Z r).drop (L r))).length) * Tryz.prog.bytesOf 3) (by
      unfold DataW.weights; rw [Tryz.underlying22]
      refine List.mem_cons_of_mem _ (List.mem_append.2 (.inl (mem_weightsAll (d := intRow .i64 (A r) (L r) (Z r)) (List.mem_map.2 ⟨r, List.mem_range.2 hr, rfl⟩) ?_)))
      rw [ha]; unfold intRow DataW.weights; rw [Tryz.underlying43]; exact List.mem_cons_self ..)
    rw [Tryz.bytes3] at this
    simp [lits, reachBytes] at this
    omega
  have hbk : ((List.range len).map fun r => (Z r).take (L r)).length + litsN ((List.range len).map fun r => (Z r).take (L r)) ≤ Rows.uptoBulk (DataW.slice ((List.range len).map fun r => intRow (H := H) .i64 (A r) (L r) (Z r)) ((List.range (cap - len)).map fun j => intRow (H := H) .i64 (A (len + j)) (L (len + j)) (Z (len + j)))) := by
    have h1 := bulk_map (H := H) (fun r => ((Z r).take (L r)).length) (fun r => intRow (H := H) .i64 (A r) (L r) (Z r)) (List.range len) (fun r hr => by
      have hr' : r < len := List.mem_range.1 hr
      obtain ⟨_, hL, hC, hz, _, hnone, hcell⟩ := hrow r (by omega)
      cases hA : A r with
      | none =>
        have h0 := hnone hA
        have hL0 : L r = 0 := by omega
        rw [hL0]; simp; exact bulk_pos _
      | some a' =>
        have := bulk_len (lits (H := H) .i64 ((Z r).take (L r)))
        simp only [intRow, Rows.uptoBulk]
        simp only [lits, List.length_map] at this ⊢
        omega)
    unfold litsN
    rw [List.map_map]
    simp only [Rows.uptoBulk, List.length_map, List.length_range] at h1 ⊢
    have e : ((fun x => List.length x) ∘ fun r => List.take (L r) (Z r)) = fun r => (List.take (L r) (Z r)).length := rfl
    rw [show (List.map (List.length ∘ fun r => List.take (L r) (Z r)) (List.range len)) = List.map (fun r => (List.take (L r) (Z r)).length) (List.range len) from rfl]
    omega
  refine ⟨(List.range len).map fun r => (Z r).take (L r), ⟨by simp; omega, some a, cap, by simp, by simpa using hl, hm, fun h => (by cases h), fun hne => ?_⟩, hbk⟩
  have hp : 0 < len := by
    rcases Nat.eq_zero_or_pos len with h | h
    · subst h; simp at hne
    · exact h
  obtain ⟨b, off, spot⟩ := a
  have hspot : spot = none := by simpa [Addr.add] using World.cell?_spot (hrow 0 (by omega)).1
  subst hspot
  have hc : ∀ j, j < cap → W.cell? ⟨b, off + j, none⟩ = some (.slice (A j) (L j) (C j)) := fun j hj => by have := (hrow j hj).1; rwa [Addr.add_lit] at this
  refine ⟨b, off, rfl, World.block_lt_of_cell? W ⟨b, off + 0, none⟩ (hc 0 (by omega)), fun j hj => ?_⟩
  have hj' : j < len := by simpa using hj
  refine ⟨_, hc j (by omega), ?_⟩
  have e0 : ((List.range len).map fun r => (Z r).take (L r)).getD j [] = (Z j).take (L j) := by simp [List.getD_eq_getElem?_getD, hj']
  rw [e0]
  obtain ⟨_, hL, hC, hz, _, hnone, hcell⟩ := hrow j (by omega)
  have e : ((Z j).take (L j)).length = L j := by simp; omega
  cases hA : A j with
  | none =>
    have h0 := hnone hA
    have hL0 : L j = 0 := by omega
    rw [h0, hL0]; simp; exact Rd.nil W
  | some a' =>
    have h8 := hw1 j hj' a' hA
    have hcell' := (hcell a' hA).2
    refine ⟨by rw [e]; omega, _, C j, by rw [e], by rw [e]; omega, hC, fun h => (by cases h), fun hne2 => ?_⟩
    have hp2 : 0 < L j := by
      rcases Nat.eq_zero_or_pos (L j) with h | h
      · rw [h] at hne2; simp at hne2
      · exact h
    obtain ⟨b', off', rfl, hc'⟩ := ints_at (zs := Z j) (fun i hi => hcell' i (by omega)) (by omega)
    refine ⟨b', off', rfl, World.block_lt_of_cell? W ⟨b', off' + 0, none⟩ (hc' 0 (by omega)), fun i hi => ?_⟩
    rw [e] at hi
    rw [hc' i (by omega)]
    simp [List.getD_eq_getElem?_getD, List.getElem?_take, hi]

set_option maxRecDepth 100000 in
/-- a formula by value -/
theorem form_open_bulk {H : Type} {enc : TypeId × Value → H} {W : World} {r : Reach} {b0 : Nat} {v : Value} {d : DataW H} {p : List MemPlace} (hv : Value.okWide Tryz.prog W r b0 24 v)
    (h : DataW.Trod enc Tryz.prog W 0 (fun _ => true) true 24 v d p) (hs : ∀ n ∈ d.weights Tryz.prog 24, n ≤ reachBytes) :
    ∃ n s css, v = .agg #[.int .i64 n, s] ∧ (Lit.int .i64 n).wf = true ∧ Rds W s css ∧ css.length + litsN css ≤ Rows.uptoBulk d := by
  obtain ⟨cs, rfl, hsz⟩ := okWide_struct Tryz.underlying24 hv
  obtain ⟨c0, c1, rfl⟩ := array2 (hsz.trans (by kernel_rfl))
  obtain ⟨fuel, hf⟩ := h
  have hf' : DataW.trod enc Tryz.prog W 0 (fun _ => true) true fuel 24 [c0, c1] = some (d, p) := by simpa [Value.cells] using hf
  obtain ⟨y0, y1, m, hx, _, h0, h1⟩ := trod_struct2 Tryz.underlying24 hf'
  have hd : d = .agg [y0.1, y1.1] := congrArg Prod.fst hx
  subst hd
  have h0' : DataW.trod enc Tryz.prog W 0 (fun _ => true) true m 3 [c0] = some y0 := h0
  have h1' : DataW.trod enc Tryz.prog W 0 (fun _ => true) true m 22 [c1] = some y1 := h1
  obtain ⟨n, hn, hy, hwf⟩ := DataW.trod_int Tryz.underlying3 h0'
  simp at hn
  subst hn
  obtain ⟨css, hr, hb⟩ := rds_bulk h1' (fun k hk => hs k (by
    unfold DataW.weights; rw [Tryz.underlying24]
    exact DataW.weights_mem_each (j := 1) (t := 22) (d := y1.1) rfl rfl k hk))
  refine ⟨n, c1, css, rfl, hwf, hr, ?_⟩
  simp only [Rows.uptoBulk, Rows.uptoBulkAll]
  omega

end Go.Proofs.YtlkbbbbclmffjaaGreatDoor
