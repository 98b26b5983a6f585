/-
  Plain mathematics of layer 1: literals, their places, tidy lists. No program here.
-/
import Derived.Lib.SlicesCompact
set_option linter.unusedSimpArgs false
set_option linter.unusedVariables false
namespace Go.Proofs.YtmfcaoacklbkoaaDoor

/-- is it a literal -/
def fmd (l : Int) : Bool := decide (l ≠ 0 ∧ -1048576 ≤ l ∧ l ≤ 1048576)
/-- its variable -/
def varOf (l : Int) : Int := if fmd l then (if l < 0 then -l else l) else 0
/-- its place -/
def idx (l : Int) : Int := if fmd l then (if l < 0 then -2 * l - 1 else 2 * l - 2) else -1
/-- the literal of a place -/
def litAt (i : Int) : Int := if 0 ≤ i ∧ i < 2097152 then (if i % 2 = 0 then i / 2 + 1 else -(i / 2 + 1)) else 0

theorem fmd_true {l : Int} (h0 : l ≠ 0) (h1 : -1048576 ≤ l) (h2 : l ≤ 1048576) : fmd l = true := by simp [fmd]; omega
theorem fmd_false {l : Int} (h : l = 0 ∨ l < -1048576 ∨ 1048576 < l) : fmd l = false := by simp [fmd]; omega
theorem fmd_cases (l : Int) : (fmd l = true ∧ l ≠ 0 ∧ -1048576 ≤ l ∧ l ≤ 1048576) ∨ (fmd l = false ∧ (l = 0 ∨ l < -1048576 ∨ 1048576 < l)) := by
  by_cases h : l ≠ 0 ∧ -1048576 ≤ l ∧ l ≤ 1048576
  · exact .inl ⟨fmd_true h.1 h.2.1 h.2.2, h⟩
  · exact .inr ⟨fmd_false (by omega), by omega⟩
theorem litAt_even {i : Int} (h0 : 0 ≤ i) (h1 : i < 2097152) (h : i % 2 = 0) : litAt i = i / 2 + 1 := by
  unfold litAt; rw [if_pos ⟨h0, h1⟩, if_pos h]
theorem litAt_odd {i : Int} (h0 : 0 ≤ i) (h1 : i < 2097152) (h : i % 2 = 1) : litAt i = -(i / 2 + 1) := by
  unfold litAt; rw [if_pos ⟨h0, h1⟩, if_neg (by omega)]
theorem litAt_none {i : Int} (h : i < 0 ∨ 2097152 ≤ i) : litAt i = 0 := by
  unfold litAt; rw [if_neg (by omega)]
theorem there_pos {l : Int} (hf : fmd l = true) (hs : 0 < l) : idx l = 2 * l - 2 ∧ varOf l = l := by
  constructor
  · simp [idx, hf]; omega
  · simp [varOf, hf]; omega
theorem there_neg {l : Int} (hf : fmd l = true) (hs : l < 0) : idx l = -2 * l - 1 ∧ varOf l = -l := by
  constructor
  · simp [idx, hf]; omega
  · simp [varOf, hf]; omega
theorem fmd_range {l : Int} (hf : fmd l = true) : l ≠ 0 ∧ -1048576 ≤ l ∧ l ≤ 1048576 := by simpa [fmd] using hf
theorem fmd_neg {l : Int} (hf : fmd l = true) : fmd (-l) = true := by
  have := fmd_range hf; exact fmd_true (by omega) (by omega) (by omega)
theorem litAt_idx {l : Int} (hf : fmd l = true) : litAt (idx l) = l := by
  have h := fmd_range hf
  by_cases hs : 0 < l
  · rw [(there_pos hf hs).1, litAt_even (by omega) (by omega) (by omega)]; omega
  · rw [(there_neg hf (by omega)).1, litAt_odd (by omega) (by omega) (by omega)]; omega
theorem idx_range {l : Int} (hf : fmd l = true) : 0 ≤ idx l ∧ idx l < 2097152 := by
  have h := fmd_range hf
  by_cases hs : 0 < l
  · rw [(there_pos hf hs).1]; omega
  · rw [(there_neg hf (by omega)).1]; omega
theorem idx_none {l : Int} (hf : fmd l = false) : idx l = -1 := by simp [idx, hf]
theorem idx_inj {l m : Int} (hf : fmd l = true) (hm : fmd m = true) (h : idx l = idx m) : l = m := by
  rw [← litAt_idx hf, h, litAt_idx hm]

/-- a tidy list that holds just what m says -/
def Tid (m : Int → Prop) (l : List Int) : Prop := (∀ x, x ∈ l ↔ m x) ∧ l.Pairwise (fun a b => idx a < idx b)

theorem rising_unique : ∀ {l l' : List Int}, l.Pairwise (fun a b => idx a < idx b) → l'.Pairwise (fun a b => idx a < idx b) → (∀ x, x ∈ l ↔ x ∈ l') → l = l'
  | [], [], _, _, _ => rfl
  | [], b :: r', _, _, h => by have := (h b).2 (by simp); simp at this
  | a :: r, [], _, _, h => by have := (h a).1 (by simp); simp at this
  | a :: r, b :: r', h1, h2, h => by
    rw [List.pairwise_cons] at h1 h2
    have ha : a = b := by
      rcases List.mem_cons.1 ((h a).1 (by simp)) with e | e
      · exact e
      · rcases List.mem_cons.1 ((h b).2 (by simp)) with e' | e'
        · exact e'.symm
        · have := h2.1 a e; have := h1.1 b e'; omega
    subst ha
    congr 1
    refine rising_unique h1.2 h2.2 fun x => ⟨fun hx => ?_, fun hx => ?_⟩
    · rcases List.mem_cons.1 ((h x).1 (List.mem_cons_of_mem _ hx)) with e | e
      · subst e; have := h1.1 x hx; omega
      · exact e
    · rcases List.mem_cons.1 ((h x).2 (List.mem_cons_of_mem _ hx)) with e | e
      · subst e; have := h2.1 x hx; omega
      · exact e
theorem Tid.unique {m : Int → Prop} {l l' : List Int} (h : Tid m l) (h' : Tid m l') : l = l' :=
  rising_unique h.2 h'.2 fun x => (h.1 x).trans (h'.1 x).symm

theorem rising_len (N : Int) : ∀ (l : List Int) (B : Int), B ≤ N → l.Pairwise (fun a b => idx a < idx b) → (∀ x ∈ l, B ≤ idx x ∧ idx x < N) → (l.length : Int) ≤ N - B
  | [], B, hB, _, _ => by simp; omega
  | a :: r, B, hB, hp, h => by
    rw [List.pairwise_cons] at hp
    have ha := h a (by simp)
    have := rising_len N r (idx a + 1) (by omega) hp.2 fun x hx => ⟨by have := hp.1 x hx; omega, (h x (List.mem_cons_of_mem _ hx)).2⟩
    simp only [List.length_cons]; omega
theorem Tid.len {m : Int → Prop} {l : List Int} (h : Tid m l) (hm : ∀ x, m x → fmd x = true) : l.length ≤ 2097152 := by
  have := rising_len 2097152 l 0 (by omega) h.2 fun x hx => idx_range (hm x ((h.1 x).1 hx))
  omega

/-- a literal put into a tidy list -/
def ins (x : Int) : List Int → List Int
  | [] => [x]
  | y :: r => if idx x < idx y then x :: y :: r else if idx x = idx y then y :: r else y :: ins x r
/-- the tidy list -/
def tid : List Int → List Int
  | [] => []
  | z :: r => if fmd z then ins z (tid r) else tid r

theorem mem_ins {x : Int} (hx : fmd x = true) : ∀ {l : List Int}, (∀ y ∈ l, fmd y = true) → ∀ z, z ∈ ins x l ↔ z = x ∨ z ∈ l
  | [], _, z => by simp [ins]
  | y :: r, h, z => by
    unfold ins
    split
    · simp
    · split
      · rename_i _ e
        have : x = y := idx_inj hx (h y (by simp)) e
        subst this; simp
      · rw [List.mem_cons, mem_ins hx (fun y hy => h y (List.mem_cons_of_mem _ hy)) z, List.mem_cons]
        constructor
        · rintro (h | h | h) <;> simp [h]
        · rintro (h | h | h) <;> simp [h]
theorem ins_rising {x : Int} (hx : fmd x = true) : ∀ {l : List Int}, (∀ y ∈ l, fmd y = true) → l.Pairwise (fun a b => idx a < idx b) → (ins x l).Pairwise (fun a b => idx a < idx b)
  | [], _, _ => by simp [ins]
  | y :: r, h, hp => by
    have hp' := hp
    rw [List.pairwise_cons] at hp
    unfold ins
    split
    · rename_i hlt
      rw [List.pairwise_cons]
      refine ⟨fun z hz => ?_, hp'⟩
      rcases List.mem_cons.1 hz with e | e
      · subst e; exact hlt
      · have := hp.1 z e; omega
    · split
      · exact hp'
      · rw [List.pairwise_cons]
        refine ⟨fun z hz => ?_, ins_rising hx (fun y hy => h y (List.mem_cons_of_mem _ hy)) hp.2⟩
        rcases (mem_ins hx (fun y hy => h y (List.mem_cons_of_mem _ hy)) z).1 hz with e | e
        · subst e; omega
        · exact hp.1 z e
theorem tid_tid : ∀ zs : List Int, Tid (fun x => x ∈ zs ∧ fmd x = true) (tid zs)
  | [] => ⟨by simp [tid], by simp [tid]⟩
  | z :: r => by
    have ih := tid_tid r
    have hl : ∀ y ∈ tid r, fmd y = true := fun y hy => ((ih.1 y).1 hy).2
    unfold tid
    cases hz : fmd z
    · refine ⟨fun x => ?_, by simpa using ih.2⟩
      simp only [Bool.false_eq_true, if_false]
      rw [ih.1 x]
      constructor
      · rintro ⟨a, b⟩; exact ⟨List.mem_cons_of_mem _ a, b⟩
      · rintro ⟨a, b⟩
        rcases List.mem_cons.1 a with e | e
        · subst e; rw [hz] at b; cases b
        · exact ⟨e, b⟩
    · refine ⟨fun x => ?_, by simpa using ins_rising hz hl ih.2⟩
      simp only [if_true]
      rw [mem_ins hz hl x, ih.1 x]
      constructor
      · rintro (a | ⟨a, b⟩)
        · subst a; exact ⟨by simp, hz⟩
        · exact ⟨List.mem_cons_of_mem _ a, b⟩
      · rintro ⟨a, b⟩
        rcases List.mem_cons.1 a with e | e
        · exact .inl e
        · exact .inr ⟨e, b⟩
theorem mem_tid {zs : List Int} {x : Int} : x ∈ tid zs ↔ x ∈ zs ∧ fmd x = true := (tid_tid zs).1 x
theorem tid_rising (zs : List Int) : (tid zs).Pairwise (fun a b => idx a < idx b) := (tid_tid zs).2
theorem tid_len (zs : List Int) : (tid zs).length ≤ 2097152 := (tid_tid zs).len fun _ h => h.2
theorem tid_fmd {zs : List Int} : ∀ x ∈ tid zs, fmd x = true := fun _ h => (mem_tid.1 h).2
/-- two lists with the same literals have one tidy list -/
theorem tid_congr {zs ys : List Int} (h : ∀ x, fmd x = true → (x ∈ zs ↔ x ∈ ys)) : tid zs = tid ys :=
  rising_unique (tid_rising _) (tid_rising _) fun x => by
    rw [mem_tid, mem_tid]
    constructor
    · rintro ⟨a, b⟩; exact ⟨(h x b).1 a, b⟩
    · rintro ⟨a, b⟩; exact ⟨(h x b).2 a, b⟩
/-- a rising list of literals is tid of whatever has its literals -/
theorem eq_tid {l zs : List Int} (hr : l.Pairwise (fun a b => idx a < idx b)) (h : ∀ x, x ∈ l ↔ x ∈ zs ∧ fmd x = true) : l = tid zs :=
  rising_unique hr (tid_rising _) fun x => (h x).trans mem_tid.symm

/-- the literals' places, in the list's order -/
def idxs (zs : List Int) : List Int := (zs.filter fmd).map idx
theorem idxs_append (a b : List Int) : idxs (a ++ b) = idxs a ++ idxs b := by simp [idxs]
theorem idxs_snoc (zs : List Int) (k : Nat) (h : k < zs.length) : idxs (zs.take (k + 1)) = idxs (zs.take k) ++ (if fmd (zs.getD k 0) then [idx (zs.getD k 0)] else []) := by
  rw [List.take_succ_eq_append_getElem h, idxs_append]
  congr 1
  simp only [idxs, List.getD_eq_getElem?_getD, List.getElem?_eq_getElem h, Option.getD_some]
  cases hf : fmd zs[k] <;> simp [List.filter_cons, hf]
theorem idxs_len (zs : List Int) : (idxs zs).length ≤ zs.length := by
  simp only [idxs, List.length_map]; exact List.length_filter_le _ _

section
open Go.Lib
theorem compact_mem_aux (d : Array Int) : ∀ j, j < d.size → ∃ i, i ≤ j ∧ keeps d i = true ∧ d[i]! = d[j]!
  | 0, _ => ⟨0, Nat.le_refl _, by simp [keeps], rfl⟩
  | j + 1, h => by
    by_cases hk : keeps d (j + 1) = true
    · exact ⟨j + 1, Nat.le_refl _, hk, rfl⟩
    · obtain ⟨i, hi, hki, e⟩ := compact_mem_aux d j (by omega)
      have e2 : d[j + 1]! = d[j]! := Classical.byContradiction fun hne => hk (keeps_pos (m := j + 1) hne)
      exact ⟨i, by omega, hki, e.trans e2.symm⟩
theorem compact_mem (ys : List Int) (x : Int) : x ∈ Lib.compact ys ↔ x ∈ ys := by
  unfold Lib.compact compactUpTo
  simp only [List.mem_map, List.mem_filter, List.mem_range]
  constructor
  · rintro ⟨j, ⟨hj, _⟩, rfl⟩
    rw [getElem!_pos _ j (by simpa using hj)]
    simp
  · intro h
    obtain ⟨j, hj, rfl⟩ := List.getElem_of_mem h
    obtain ⟨i, hi, hk, e⟩ := compact_mem_aux ys.toArray j (by simpa using hj)
    refine ⟨i, ⟨by omega, hk⟩, ?_⟩
    rw [e, getElem!_pos _ j (by simpa using hj)]
    simp
theorem compact_rising (ys : List Int) (hs : ys.Pairwise (fun a b => a ≤ b)) : (Lib.compact ys).Pairwise (fun a b => a < b) := by
  unfold Lib.compact compactUpTo
  rw [List.pairwise_map]
  have h1 : ((List.range ys.length).filter (keeps ys.toArray)).Pairwise (fun a b => a < b) := List.Pairwise.filter _ List.pairwise_lt_range
  refine h1.imp_of_mem fun {i j} hi hj hlt => ?_
  simp only [List.mem_filter, List.mem_range] at hi hj
  have hm : ∀ a b, a ≤ b → b < ys.length → ys.toArray[a]! ≤ ys.toArray[b]! := by
    intro a b hab hb
    rcases Nat.lt_or_ge a b with h | h
    · rw [getElem!_pos _ a (by simp; omega), getElem!_pos _ b (by simpa using hb)]
      simpa using List.pairwise_iff_getElem.1 hs a b (by omega) hb h
    · have : a = b := by omega
      subst this; exact Int.le_refl _
  have e1 := hm i (j - 1) (by omega) (by omega)
  have e2 := hm (j - 1) j (by omega) (by omega)
  have e3 : ys.toArray[j]! ≠ ys.toArray[j - 1]! := by
    have := hj.2
    simp only [keeps] at this
    intro e
    simp [e] at this
    omega
  omega
end

/-- what Join makes of the places is the tidy list -/
theorem join_tid (zs : List Int) : (Lib.compact ((idxs zs).mergeSort fun x y => decide (x ≤ y))).map litAt = tid zs := by
  have hmem : ∀ i, i ∈ Lib.compact ((idxs zs).mergeSort fun x y => decide (x ≤ y)) ↔ ∃ x, x ∈ zs ∧ fmd x = true ∧ idx x = i := by
    intro i
    rw [compact_mem, List.mem_mergeSort]
    simp only [idxs, List.mem_map, List.mem_filter]
    constructor
    · rintro ⟨x, ⟨a, b⟩, c⟩; exact ⟨x, a, b, c⟩
    · rintro ⟨x, a, b, c⟩; exact ⟨x, ⟨a, b⟩, c⟩
  have hsort : ((idxs zs).mergeSort fun x y => decide (x ≤ y)).Pairwise (fun a b => a ≤ b) := by
    have := List.pairwise_mergeSort (le := fun x y : Int => decide (x ≤ y)) (by intro a b c; simp; omega) (by intro a b; simp; omega) (idxs zs)
    exact this.imp fun h => by simpa using h
  refine eq_tid ?_ ?_
  · rw [List.pairwise_map]
    refine (compact_rising _ hsort).imp_of_mem fun {i j} hi hj hlt => ?_
    obtain ⟨x, _, fx, rfl⟩ := (hmem i).1 hi
    obtain ⟨y, _, fy, rfl⟩ := (hmem j).1 hj
    rw [litAt_idx fx, litAt_idx fy]; exact hlt
  · intro x
    rw [List.mem_map]
    constructor
    · rintro ⟨i, hi, rfl⟩
      obtain ⟨y, hy, fy, rfl⟩ := (hmem i).1 hi
      rw [litAt_idx fy]; exact ⟨hy, fy⟩
    · rintro ⟨hx, fx⟩
      exact ⟨idx x, (hmem _).2 ⟨x, hx, fx, rfl⟩, litAt_idx fx⟩

end Go.Proofs.YtmfcaoacklbkoaaDoor
