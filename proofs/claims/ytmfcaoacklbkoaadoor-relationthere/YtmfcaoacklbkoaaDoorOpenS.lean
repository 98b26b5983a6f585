/-
  From a row's reading of a slice of structs to what it reads, element by element, and how much it holds at most.
-/
import Derived.Test.YtmfcaoacklbkoaaDoorOpenU
set_option linter.unusedVariables false
set_option linter.unusedSimpArgs false
namespace Go.Proofs.YtmfcaoacklbkoaaDoor
open Go.RowKit Go.ChangeShapes Go.WideShapes Go.Deep

/-- a slice whose elements are read one by one (n cells each) -/
def RdS {α : Type} (n : Nat) (El : List Value → α → Prop) (W : World) (c : Value) (xs : List α) : Prop :=
  ∃ a cap, c = .slice a xs.length cap ∧ xs.length ≤ cap ∧ cap ≤ maxLen ∧ ∀ (j : Nat) (hj : j < xs.length), ∃ b off cs, a = some ⟨b, off, none⟩ ∧ b < W.heap.size ∧ cs.length = n ∧ (∀ k, k < n → W.cell? ⟨b, off + j * n + k, none⟩ = cs[k]?) ∧ El cs xs[j]
theorem bulk_take {H : Type} (l : List (DataW H)) (k : Nat) (h : k < l.length) : Rows.uptoBulkAll (l.take (k + 1)) = Rows.uptoBulkAll (l.take k) + Rows.uptoBulk l[k] := by
  induction l generalizing k with
  | nil => simp at h
  | cons x r ih =>
    cases k with
    | zero => simp [Rows.uptoBulkAll]
    | succ j =>
      have := ih j (by simpa using h)
      simp only [List.take_succ_cons, Rows.uptoBulkAll, List.getElem_cons_succ]
      omega
theorem trod_struct5 {H : Type} {enc : TypeId × Value → H} {P : Program} {w : World} {base : Nat} {spare : Nat → Bool} {held : Bool} {t : TypeId} {f0 f1 f2 f3 f4 : Field} {fuel : Nat} {cs : List Value} {x : DataW H × List MemPlace} (ht : P.underlying t = some (.struct #[f0, f1, f2, f3, f4])) (h : DataW.trod enc P w base spare held fuel t cs = some x) :
    ∃ y0 y1 y2 y3 y4 n, x.1 = .agg [y0.1, y1.1, y2.1, y3.1, y4.1] ∧ cs.length = P.cellsOf t ∧ DataW.trod enc P w base spare held n f0.type ((cs.drop f0.offset).take (P.cellsOf f0.type)) = some y0 ∧
      DataW.trod enc P w base spare held n f1.type ((cs.drop f1.offset).take (P.cellsOf f1.type)) = some y1 ∧ DataW.trod enc P w base spare held n f2.type ((cs.drop f2.offset).take (P.cellsOf f2.type)) = some y2 ∧
      DataW.trod enc P w base spare held n f3.type ((cs.drop f3.offset).take (P.cellsOf f3.type)) = some y3 ∧ DataW.trod enc P w base spare held n f4.type ((cs.drop f4.offset).take (P.cellsOf f4.type)) = some y4 := by
  obtain ⟨xs, n, _, rfl, hl, hlen, hf⟩ := DataW.trod_struct ht h
  match xs, hlen with
  | [y0, y1, y2, y3, y4], _ => exact ⟨y0, y1, y2, y3, y4, n, by simp, hl, by simpa using hf 0 f0 rfl, by simpa using hf 1 f1 rfl, by simpa using hf 2 f2 rfl, by simpa using hf 3 f3 rfl, by simpa using hf 4 f4 rfl⟩

set_option maxRecDepth 100000 in
theorem rows_of_trod {α H : Type} {enc : TypeId × Value → H} {W : World} {T E : TypeId} {n : Nat} (hT : Tryd.prog.underlying T = some (.slice E)) (hn : Tryd.prog.cellsOf E = n) (hn0 : 0 < n) (El : List Value → α → Prop) (size : α → Nat)
    (hel : ∀ m cs y, DataW.trod enc Tryd.prog W 0 (fun _ => true) true m E cs = some y → (∀ k ∈ y.1.weights Tryd.prog E, k ≤ reachBytes) → ∃ x, El cs x ∧ size x + 1 ≤ Rows.uptoBulk y.1)
    {fuel : Nat} {c : Value} {y : DataW H × List MemPlace} (h : DataW.trod enc Tryd.prog W 0 (fun _ => true) true fuel T [c] = some y) (hs : ∀ k ∈ y.1.weights Tryd.prog T, k ≤ reachBytes) :
    ∃ xs : List α, RdS n El W c xs ∧ xs.length + (xs.map size).sum ≤ Rows.uptoBulk y.1 := by
  rcases DataW.trod_slice hT h with ⟨hcs, rfl⟩ | ⟨a, len, cap, elems, rest, m, _, hcs, rfl, _, hl, hm, hlen, hcell, _, _⟩
  · simp at hcs; subst hcs
    exact ⟨[], ⟨none, 0, rfl, by simp, by simp, fun j hj => by simp at hj⟩, by simp⟩
  simp at hcs; subst hcs
  rw [hn] at hcell
  have hw : ∀ i (hi : i < len), ∃ x cs, W.cells? 0 (a.add (i * n)) n = some cs ∧ El cs x ∧ size x + 1 ≤ Rows.uptoBulk ((elems[i]'(by omega)).1) := by
    intro i hi
    have h1 := hcell i hi
    rw [List.getElem?_eq_getElem (by omega)] at h1
    cases hc : W.cells? 0 (a.add (i * n)) n with
    | none => rw [hc] at h1; simp at h1
    | some cs =>
      rw [hc] at h1
      have h2 : DataW.trod enc Tryd.prog W 0 (fun _ => true) true m E cs = some (elems[i]'(by omega)) := by simpa using h1
      obtain ⟨x, hx, hb⟩ := hel m cs _ h2 (fun k hk => hs k (by
        unfold DataW.weights; rw [hT]
        exact List.mem_cons_of_mem _ (List.mem_append.2 (.inl (mem_weightsAll (d := (elems[i]'(by omega)).1) (List.mem_map.2 ⟨_, List.getElem_mem _, rfl⟩) hk)))))
      exact ⟨x, cs, rfl, hx, hb⟩
  have key : ∀ k, k ≤ len → ∃ xs : List α, xs.length = k ∧ (∀ (j : Nat) (hj : j < xs.length), ∃ cs, W.cells? 0 (a.add (j * n)) n = some cs ∧ El cs xs[j]) ∧ xs.length + (xs.map size).sum ≤ Rows.uptoBulkAll ((elems.map (·.1)).take k) := by
    intro k
    induction k with
    | zero => intro _; exact ⟨[], rfl, fun j hj => by simp at hj, by simp⟩
    | succ k ih =>
      intro hk
      obtain ⟨xs, h1, h2, h3⟩ := ih (by omega)
      obtain ⟨x, cs, hc, hx, hb⟩ := hw k (by omega)
      refine ⟨xs ++ [x], by simp [h1], fun j hj => ?_, ?_⟩
      · by_cases hj2 : j < xs.length
        · rw [List.getElem_append_left hj2]; exact h2 j hj2
        · have : j = xs.length := by simp at hj; omega
          subst this
          refine ⟨cs, by rw [h1]; exact hc, ?_⟩
          have : (xs ++ [x])[xs.length]'hj = x := by simp
          rw [this]; exact hx
      · rw [bulk_take _ k (by simp; omega)]
        simp only [List.length_append, List.map_append, List.sum_append, List.length_cons, List.length_nil, List.map_cons, List.map_nil, List.sum_cons, List.sum_nil, List.getElem_map]
        omega
  obtain ⟨xs, h1, h2, h3⟩ := key len (Nat.le_refl _)
  rw [List.take_of_length_le (by simp; omega)] at h3
  refine ⟨xs, ⟨some a, cap, by rw [h1], by omega, hm, fun j hj => ?_⟩, by simp only [Rows.uptoBulk]; omega⟩
  obtain ⟨cs, hc, hx⟩ := h2 j hj
  obtain ⟨_, hlc, hcc⟩ := World.cells?_some hc
  obtain ⟨b, off, spot⟩ := a
  have hspot : spot = none := by
    obtain ⟨cs', hc', _⟩ := h2 0 (by omega)
    obtain ⟨_, hlc', hcc'⟩ := World.cells?_some hc'
    have h0 := hcc' 0 (by omega)
    rw [List.getElem?_eq_getElem (by omega)] at h0
    simpa [Addr.add] using World.cell?_spot h0
  subst hspot
  have hbl := World.cells?_block hc hn0
  rw [Addr.add_lit] at hbl
  refine ⟨b, off, cs, rfl, hbl, hlc, fun k hk => ?_, hx⟩
  have := hcc k (by omega)
  rw [Addr.add_lit, Addr.add_lit] at this
  exact this

end Go.Proofs.YtmfcaoacklbkoaaDoor
