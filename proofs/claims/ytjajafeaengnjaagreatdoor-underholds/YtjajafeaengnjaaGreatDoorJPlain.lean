/-
  joined: Plain UnP PlainRef StpA
-/
import Derived.Lib.SlicesCompact
set_option linter.unusedSimpArgs false
set_option linter.unusedVariables false
namespace Go.Proofs.YtjajafeaengnjaaGreatDoor

/-- is it a literal -/
def fmd (l : Int) : Bool := decide (l ≠ 0 ∧ -1048576 ≤ l ∧ l ≤ 1048576)
/-- its variable -/
def varOf (l : Int) : Int := if fmd l then (if l < 0 then -l else l) else 0
/-- its place -/
def idx (l : Int) : Int := if fmd l then (if l < 0 then -2 * l - 1 else 2 * l - 2) else -1
/-- the literal of a place -/
def litAt (i : Int) : Int := if 0 ≤ i ∧ i < 2097152 then (if i % 2 = 0 then i / 2 + 1 else -(i / 2 + 1)) else 0

theorem fmd_true {l : Int} (h0 : l ≠ 0) (h1 : -1048576 ≤ l) (h2 : l ≤ 1048576) : fmd l = true := by simp [fmd]; omega
theorem fmd_false {l : Int} (h : l = 0 ∨ l < -1048576 ∨ 1048576 < l) : fmd l = false := by simp [fmd]; omega
theorem fmd_cases (l : Int) : (fmd l = true ∧ l ≠ 0 ∧ -1048576 ≤ l ∧ l ≤ 1048576) ∨ (fmd l = false ∧ (l = 0 ∨ l < -1048576 ∨ 1048576 < l)) := by
  by_cases h : l ≠ 0 ∧ -1048576 ≤ l ∧ l ≤ 1048576
  · exact .inl ⟨fmd_true h.1 h.2.1 h.2.2, h⟩
  · exact .inr ⟨fmd_false (by omega), by omega⟩
theorem litAt_even {i : Int} (h0 : 0 ≤ i) (h1 : i < 2097152) (h : i % 2 = 0) : litAt i = i / 2 + 1 := by
  unfold litAt; rw [if_pos ⟨h0, h1⟩, if_pos h]
theorem litAt_odd {i : Int} (h0 : 0 ≤ i) (h1 : i < 2097152) (h : i % 2 = 1) : litAt i = -(i / 2 + 1) := by
  unfold litAt; rw [if_pos ⟨h0, h1⟩, if_neg (by omega)]
theorem litAt_none {i : Int} (h : i < 0 ∨ 2097152 ≤ i) : litAt i = 0 := by
  unfold litAt; rw [if_neg (by omega)]
theorem there_pos {l : Int} (hf : fmd l = true) (hs : 0 < l) : idx l = 2 * l - 2 ∧ varOf l = l := by
  constructor
  · simp [idx, hf]; omega
  · simp [varOf, hf]; omega
theorem there_neg {l : Int} (hf : fmd l = true) (hs : l < 0) : idx l = -2 * l - 1 ∧ varOf l = -l := by
  constructor
  · simp [idx, hf]; omega
  · simp [varOf, hf]; omega
theorem fmd_range {l : Int} (hf : fmd l = true) : l ≠ 0 ∧ -1048576 ≤ l ∧ l ≤ 1048576 := by simpa [fmd] using hf
theorem fmd_neg {l : Int} (hf : fmd l = true) : fmd (-l) = true := by
  have := fmd_range hf; exact fmd_true (by omega) (by omega) (by omega)
theorem litAt_idx {l : Int} (hf : fmd l = true) : litAt (idx l) = l := by
  have h := fmd_range hf
  by_cases hs : 0 < l
  · rw [(there_pos hf hs).1, litAt_even (by omega) (by omega) (by omega)]; omega
  · rw [(there_neg hf (by omega)).1, litAt_odd (by omega) (by omega) (by omega)]; omega
theorem idx_range {l : Int} (hf : fmd l = true) : 0 ≤ idx l ∧ idx l < 2097152 := by
  have h := fmd_range hf
  by_cases hs : 0 < l
  · rw [(there_pos hf hs).1]; omega
  · rw [(there_neg hf (by omega)).1]; omega
theorem idx_none {l : Int} (hf : fmd l = false) : idx l = -1 := by simp [idx, hf]
theorem idx_inj {l m : Int} (hf : fmd l = true) (hm : fmd m = true) (h : idx l = idx m) : l = m := by
  rw [← litAt_idx hf, h, litAt_idx hm]

/-- a tidy list that holds just what m says -/
def Tid (m : Int → Prop) (l : List Int) : Prop := (∀ x, x ∈ l ↔ m x) ∧ l.Pairwise (fun a b => idx a < idx b)

theorem rising_unique : ∀ {l l' : List Int}, l.Pairwise (fun a b => idx a < idx b) → l'.Pairwise (fun a b => idx a < idx b) → (∀ x, x ∈ l ↔ x ∈ l') → l = l'
  | [], [], _, _, _ => rfl
  | [], b :: r', _, _, h => by have := (h b).2 (by simp); simp at this
  | a :: r, [], _, _, h => by have := (h a).1 (by simp); simp at this
  | a :: r, b :: r', h1, h2, h => by
    rw [List.pairwise_cons] at h1 h2
    have ha : a = b := by
      rcases List.mem_cons.1 ((h a).1 (by simp)) with e | e
      · exact e
      · rcases List.mem_cons.1 ((h b).2 (by simp)) with e' | e'
        · exact e'.symm
        · have := h2.1 a e; have := h1.1 b e'; omega
    subst ha
    congr 1
    refine rising_unique h1.2 h2.2 fun x => ⟨fun hx => ?_, fun hx => ?_⟩
    · rcases List.mem_cons.1 ((h x).1 (List.mem_cons_of_mem _ hx)) with e | e
      · subst e; have := h1.1 x hx; omega
      · exact e
    · rcases List.mem_cons.1 ((h x).2 (List.mem_cons_of_mem _ hx)) with e | e
      · subst e; have := h2.1 x hx; omega
      · exact e
theorem Tid.unique {m : Int → Prop} {l l' : List Int} (h : Tid m l) (h' : Tid m l') : l = l' :=
  rising_unique h.2 h'.2 fun x => (h.1 x).trans (h'.1 x).symm

theorem rising_len (N : Int) : ∀ (l : List Int) (B : Int), B ≤ N → l.Pairwise (fun a b => idx a < idx b) → (∀ x ∈ l, B ≤ idx x ∧ idx x < N) → (l.length : Int) ≤ N - B
  | [], B, hB, _, _ => by simp; omega
  | a :: r, B, hB, hp, h => by
    rw [List.pairwise_cons] at hp
    have ha := h a (by simp)
    have := rising_len N r (idx a + 1) (by omega) hp.2 fun x hx => ⟨by have := hp.1 x hx; omega, (h x (List.mem_cons_of_mem _ hx)).2⟩
    simp only [List.length_cons]; omega
theorem Tid.len {m : Int → Prop} {l : List Int} (h : Tid m l) (hm : ∀ x, m x → fmd x = true) : l.length ≤ 2097152 := by
  have := rising_len 2097152 l 0 (by omega) h.2 fun x hx => idx_range (hm x ((h.1 x).1 hx))
  omega

/-- a literal put into a tidy list -/
def ins (x : Int) : List Int → List Int
  | [] => [x]
  | y :: r => if idx x < idx y then x :: y :: r else if idx x = idx y then y :: r else y :: ins x r
/-- the tidy list -/
def tid : List Int → List Int
  | [] => []
  | z :: r => if fmd z then ins z (tid r) else tid r

theorem mem_ins {x : Int} (hx : fmd x = true) : ∀ {l : List Int}, (∀ y ∈ l, fmd y = true) → ∀ z, z ∈ ins x l ↔ z = x ∨ z ∈ l
  | [], _, z => by simp [ins]
  | y :: r, h, z => by
    unfold ins
    split
    · simp
    · split
      · rename_i _ e
        have : x = y := idx_inj hx (h y (by simp)) e
        subst this; simp
      · rw [List.mem_cons, mem_ins hx (fun y hy => h y (List.mem_cons_of_mem _ hy)) z, List.mem_cons]
        constructor
        · rintro (h | h | h) <;> simp [h]
        · rintro (h | h | h) <;> simp [h]
theorem ins_rising {x : Int} (hx : fmd x = true) : ∀ {l : List Int}, (∀ y ∈ l, fmd y = true) → l.Pairwise (fun a b => idx a < idx b) → (ins x l).Pairwise (fun a b => idx a < idx b)
  | [], _, _ => by simp [ins]
  | y :: r, h, hp => by
    have hp' := hp
    rw [List.pairwise_cons] at hp
    unfold ins
    split
    · rename_i hlt
      rw [List.pairwise_cons]
      refine ⟨fun z hz => ?_, hp'⟩
      rcases List.mem_cons.1 hz with e | e
      · subst e; exact hlt
      · have := hp.1 z e; omega
    · split
      · exact hp'
      · rw [List.pairwise_cons]
        refine ⟨fun z hz => ?_, ins_rising hx (fun y hy => h y (List.mem_cons_of_mem _ hy)) hp.2⟩
        rcases (mem_ins hx (fun y hy => h y (List.mem_cons_of_mem _ hy)) z).1 hz with e | e
        · subst e; omega
        · exact hp.1 z e
theorem tid_tid : ∀ zs : List Int, Tid (fun x => x ∈ zs ∧ fmd x = true) (tid zs)
  | [] => ⟨by simp [tid], by simp [tid]⟩
  | z :: r => by
    have ih := tid_tid r
    have hl : ∀ y ∈ tid r, fmd y = true := fun y hy => ((ih.1 y).1 hy).2
    unfold tid
    cases hz : fmd z
    · refine ⟨fun x => ?_, by simpa using ih.2⟩
      simp only [Bool.false_eq_true, if_false]
      rw [ih.1 x]
      constructor
      · rintro ⟨a, b⟩; exact ⟨List.mem_cons_of_mem _ a, b⟩
      · rintro ⟨a, b⟩
        rcases List.mem_cons.1 a with e | e
        · subst e; rw [hz] at b; cases b
        · exact ⟨e, b⟩
    · refine ⟨fun x => ?_, by simpa using ins_rising hz hl ih.2⟩
      simp only [if_true]
      rw [mem_ins hz hl x, ih.1 x]
      constructor
      · rintro (a | ⟨a, b⟩)
        · subst a; exact ⟨by simp, hz⟩
        · exact ⟨List.mem_cons_of_mem _ a, b⟩
      · rintro ⟨a, b⟩
        rcases List.mem_cons.1 a with e | e
        · exact .inl e
        · exact .inr ⟨e, b⟩
theorem mem_tid {zs : List Int} {x : Int} : x ∈ tid zs ↔ x ∈ zs ∧ fmd x = true := (tid_tid zs).1 x
theorem tid_rising (zs : List Int) : (tid zs).Pairwise (fun a b => idx a < idx b) := (tid_tid zs).2
theorem tid_len (zs : List Int) : (tid zs).length ≤ 2097152 := (tid_tid zs).len fun _ h => h.2
theorem tid_fmd {zs : List Int} : ∀ x ∈ tid zs, fmd x = true := fun _ h => (mem_tid.1 h).2
/-- two lists with the same literals have one tidy list -/
theorem tid_congr {zs ys : List Int} (h : ∀ x, fmd x = true → (x ∈ zs ↔ x ∈ ys)) : tid zs = tid ys :=
  rising_unique (tid_rising _) (tid_rising _) fun x => by
    rw [mem_tid, mem_tid]
    constructor
    · rintro ⟨a, b⟩; exact ⟨(h x b).1 a, b⟩
    · rintro ⟨a, b⟩; exact ⟨(h x b).2 a, b⟩
/-- a rising list of literals is tid of whatever has its literals -/
theorem eq_tid {l zs : List Int} (hr : l.Pairwise (fun a b => idx a < idx b)) (h : ∀ x, x ∈ l ↔ x ∈ zs ∧ fmd x = true) : l = tid zs :=
  rising_unique hr (tid_rising _) fun x => (h x).trans mem_tid.symm

/-- the literals' places, in the list's order -/
def idxs (zs : List Int) : List Int := (zs.filter fmd).map idx
theorem idxs_append (a b : List Int) : idxs (a ++ b) = idxs a ++ idxs b := by simp [idxs]
theorem idxs_snoc (zs : List Int) (k : Nat) (h : k < zs.length) : idxs (zs.take (k + 1)) = idxs (zs.take k) ++ (if fmd (zs.getD k 0) then [idx (zs.getD k 0)] else []) := by
  rw [List.take_succ_eq_append_getElem h, idxs_append]
  congr 1
  simp only [idxs, List.getD_eq_getElem?_getD, List.getElem?_eq_getElem h, Option.getD_some]
  cases hf : fmd zs[k] <;> simp [List.filter_cons, hf]
theorem idxs_len (zs : List Int) : (idxs zs).length ≤ zs.length := by
  simp only [idxs, List.length_map]; exact List.length_filter_le _ _

section
open Go.Lib
theorem compact_mem_aux (d : Array Int) : ∀ j, j < d.size → ∃ i, i ≤ j ∧ keeps d i = true ∧ d[i]! = d[j]!
  | 0, _ => ⟨0, Nat.le_refl _, by simp [keeps], rfl⟩
  | j + 1, h => by
    by_cases hk : keeps d (j + 1) = true
    · exact ⟨j + 1, Nat.le_refl _, hk, rfl⟩
    · obtain ⟨i, hi, hki, e⟩ := compact_mem_aux d j (by omega)
      have e2 : d[j + 1]! = d[j]! := Classical.byContradiction fun hne => hk (keeps_pos (m := j + 1) hne)
      exact ⟨i, by omega, hki, e.trans e2.symm⟩
theorem compact_mem (ys : List Int) (x : Int) : x ∈ Lib.compact ys ↔ x ∈ ys := by
  unfold Lib.compact compactUpTo
  simp only [List.mem_map, List.mem_filter, List.mem_range]
  constructor
  · rintro ⟨j, ⟨hj, _⟩, rfl⟩
    rw [getElem!_pos _ j (by simpa using hj)]
    simp
  · intro h
    obtain ⟨j, hj, rfl⟩ := List.getElem_of_mem h
    obtain ⟨i, hi, hk, e⟩ := compact_mem_aux ys.toArray j (by simpa using hj)
    refine ⟨i, ⟨by omega, hk⟩, ?_⟩
    rw [e, getElem!_pos _ j (by simpa using hj)]
    simp
theorem compact_rising (ys : List Int) (hs : ys.Pairwise (fun a b => a ≤ b)) : (Lib.compact ys).Pairwise (fun a b => a < b) := by
  unfold Lib.compact compactUpTo
  rw [List.pairwise_map]
  have h1 : ((List.range ys.length).filter (keeps ys.toArray)).Pairwise (fun a b => a < b) := List.Pairwise.filter _ List.pairwise_lt_range
  refine h1.imp_of_mem fun {i j} hi hj hlt => ?_
  simp only [List.mem_filter, List.mem_range] at hi hj
  have hm : ∀ a b, a ≤ b → b < ys.length → ys.toArray[a]! ≤ ys.toArray[b]! := by
    intro a b hab hb
    rcases Nat.lt_or_ge a b with h | h
    · rw [getElem!_pos _ a (by simp; omega), getElem!_pos _ b (by simpa using hb)]
      simpa using List.pairwise_iff_getElem.1 hs a b (by omega) hb h
    · have : a = b := by omega
      subst this; exact Int.le_refl _
  have e1 := hm i (j - 1) (by omega) (by omega)
  have e2 := hm (j - 1) j (by omega) (by omega)
  have e3 : ys.toArray[j]! ≠ ys.toArray[j - 1]! := by
    have := hj.2
    simp only [keeps] at this
    intro e
    simp [e] at this
    omega
  omega
end

/-- what Join makes of the places is the tidy list -/
theorem join_tid (zs : List Int) : (Lib.compact ((idxs zs).mergeSort fun x y => decide (x ≤ y))).map litAt = tid zs := by
  have hmem : ∀ i, i ∈ Lib.compact ((idxs zs).mergeSort fun x y => decide (x ≤ y)) ↔ ∃ x, x ∈ zs ∧ fmd x = true ∧ idx x = i := by
    intro i
    rw [compact_mem, List.mem_mergeSort]
    simp only [idxs, List.mem_map, List.mem_filter]
    constructor
    · rintro ⟨x, ⟨a, b⟩, c⟩; exact ⟨x, a, b, c⟩
    · rintro ⟨x, a, b, c⟩; exact ⟨x, ⟨a, b⟩, c⟩
  have hsort : ((idxs zs).mergeSort fun x y => decide (x ≤ y)).Pairwise (fun a b => a ≤ b) := by
    have := List.pairwise_mergeSort (le := fun x y : Int => decide (x ≤ y)) (by intro a b c; simp; omega) (by intro a b; simp; omega) (idxs zs)
    exact this.imp fun h => by simpa using h
  refine eq_tid ?_ ?_
  · rw [List.pairwise_map]
    refine (compact_rising _ hsort).imp_of_mem fun {i j} hi hj hlt => ?_
    obtain ⟨x, _, fx, rfl⟩ := (hmem i).1 hi
    obtain ⟨y, _, fy, rfl⟩ := (hmem j).1 hj
    rw [litAt_idx fx, litAt_idx fy]; exact hlt
  · intro x
    rw [List.mem_map]
    constructor
    · rintro ⟨i, hi, rfl⟩
      obtain ⟨y, hy, fy, rfl⟩ := (hmem i).1 hi
      rw [litAt_idx fy]; exact ⟨hy, fy⟩
    · rintro ⟨hx, fx⟩
      exact ⟨idx x, (hmem _).2 ⟨x, hx, fx, rfl⟩, litAt_idx fx⟩

end Go.Proofs.YtjajafeaengnjaaGreatDoor
set_option linter.unusedSimpArgs false
set_option linter.unusedVariables false
namespace Go.Proofs.YtjajafeaengnjaaGreatDoor

/-- how a clause stands under L: none: neither false nor unit; 0: false; l: unit on l -/
def kd (L c : List Int) : Option Int :=
  if c.any (fun l => decide (l ∈ L)) then none else
  match c.filter (fun l => decide (-l ∉ L)) with
  | [] => some 0
  | l :: r => if r.all (fun m => decide (m = l)) then some l else none
theorem kd_true {L c : List Int} {m : Int} (h : m ∈ c) (hL : m ∈ L) : kd L c = none := by
  unfold kd; rw [if_pos]; exact List.any_eq_true.2 ⟨m, h, decide_eq_true hL⟩
theorem kd_two {L c : List Int} {m m' : Int} (h : m ∈ c) (h' : m' ∈ c) (hne : m ≠ m') (hm : -m ∉ L) (hm' : -m' ∉ L) : kd L c = none := by
  unfold kd
  split
  · rfl
  · have a1 : m ∈ c.filter (fun l => decide (-l ∉ L)) := List.mem_filter.2 ⟨h, decide_eq_true hm⟩
    have a2 : m' ∈ c.filter (fun l => decide (-l ∉ L)) := List.mem_filter.2 ⟨h', decide_eq_true hm'⟩
    split
    · rename_i e; rw [e] at a1; simp at a1
    · rename_i l r e
      rw [e] at a1 a2
      rw [if_neg]
      intro hall
      have hh : ∀ x ∈ l :: r, x = l := fun x hx => by
        rcases List.mem_cons.1 hx with e | e
        · exact e
        · exact of_decide_eq_true (List.all_eq_true.1 hall x e)
      exact hne ((hh m a1).trans (hh m' a2).symm)
theorem kd_false {L c : List Int} (h : ∀ m ∈ c, -m ∈ L) (hn : ∀ m ∈ c, m ∉ L) : kd L c = some 0 := by
  unfold kd
  rw [if_neg]
  · have : c.filter (fun l => decide (-l ∉ L)) = [] := List.filter_eq_nil_iff.2 fun m hm => by simpa using h m hm
    rw [this]
  · intro he
    obtain ⟨m, hm, hd⟩ := List.any_eq_true.1 he
    exact hn m hm (of_decide_eq_true hd)
theorem kd_unit {L c : List Int} {l : Int} (hl : l ∈ c) (h1 : -l ∉ L) (h : ∀ m ∈ c, m ≠ l → -m ∈ L) (hn : ∀ m ∈ c, m ∉ L) : kd L c = some l := by
  unfold kd
  rw [if_neg]
  · have a1 : l ∈ c.filter (fun l => decide (-l ∉ L)) := List.mem_filter.2 ⟨hl, decide_eq_true h1⟩
    have a2 : ∀ x ∈ c.filter (fun l => decide (-l ∉ L)), x = l := fun x hx => by
      obtain ⟨b1, b2⟩ := List.mem_filter.1 hx
      have b2 := of_decide_eq_true b2
      exact Classical.byContradiction fun hne => b2 (h x b1 hne)
    split
    · rename_i e; rw [e] at a1; simp at a1
    · rename_i m r e
      rw [e] at a2
      have e1 : m = l := a2 m (by simp)
      subst e1
      rw [if_pos]
      exact List.all_eq_true.2 fun x hx => decide_eq_true (a2 x (List.mem_cons_of_mem _ hx))
  · intro he
    obtain ⟨m, hm, hd⟩ := List.any_eq_true.1 he
    exact hn m hm (of_decide_eq_true hd)
/-- all that kd can say -/
theorem kd_cases (L c : List Int) : (kd L c = none ∧ ((∃ m ∈ c, m ∈ L) ∨ ∃ m ∈ c, ∃ m' ∈ c, m ≠ m' ∧ -m ∉ L ∧ -m' ∉ L)) ∨ (kd L c = some 0 ∧ (∀ m ∈ c, -m ∈ L) ∧ ∀ m ∈ c, m ∉ L) ∨ ∃ l, kd L c = some l ∧ l ∈ c ∧ -l ∉ L ∧ (∀ m ∈ c, m ≠ l → -m ∈ L) ∧ ∀ m ∈ c, m ∉ L := by
  by_cases ht : ∃ m ∈ c, m ∈ L
  · obtain ⟨m, h1, h2⟩ := ht
    exact .inl ⟨kd_true h1 h2, .inl ⟨m, h1, h2⟩⟩
  · have hn : ∀ m ∈ c, m ∉ L := fun m hm h => ht ⟨m, hm, h⟩
    by_cases hf : ∀ m ∈ c, -m ∈ L
    · exact .inr (.inl ⟨kd_false hf hn, hf, hn⟩)
    · obtain ⟨l, hl⟩ : ∃ l, l ∈ c ∧ -l ∉ L := Classical.byContradiction fun h => hf fun m hm => Classical.byContradiction fun h2 => h ⟨m, hm, h2⟩
      by_cases hu : ∀ m ∈ c, m ≠ l → -m ∈ L
      · exact .inr (.inr ⟨l, kd_unit hl.1 hl.2 hu hn, hl.1, hl.2, hu, hn⟩)
      · obtain ⟨m, hm⟩ : ∃ m, m ∈ c ∧ m ≠ l ∧ -m ∉ L := Classical.byContradiction fun h => hu fun m hm h1 => Classical.byContradiction fun h2 => h ⟨m, hm, h1, h2⟩
        exact .inl ⟨kd_two hm.1 hl.1 hm.2.1 hm.2.2 hl.2, .inr ⟨m, hm.1, l, hl.1, hm.2.1, hm.2.2, hl.2⟩⟩
/-- kd goes by what stands in L alone -/
theorem kd_congr {L L' c : List Int} (h : ∀ m ∈ c, (m ∈ L ↔ m ∈ L') ∧ (-m ∈ L ↔ -m ∈ L')) : kd L c = kd L' c := by
  rcases kd_cases L c with ⟨e, (⟨m, h1, h2⟩ | ⟨m, h1, m', h2, h3, h4, h5⟩)⟩ | ⟨e, h1, h2⟩ | ⟨l, e, h1, h2, h3, h4⟩
  · rw [e]; exact (kd_true h1 ((h m h1).1.1 h2)).symm
  · rw [e]; exact (kd_two h1 h2 h3 (fun x => h4 ((h m h1).2.2 x)) (fun x => h5 ((h m' h2).2.2 x))).symm
  · rw [e]; exact (kd_false (fun m hm => (h m hm).2.1 (h1 m hm)) (fun m hm x => h2 m hm ((h m hm).1.2 x))).symm
  · rw [e]; exact (kd_unit h1 (fun x => h2 ((h l h1).2.2 x)) (fun m hm hne => (h m hm).2.1 (h3 m hm hne)) (fun m hm x => h4 m hm ((h m hm).1.2 x))).symm

/-- the least clause that is false or unit -/
structure At (css : List (List Int)) (L : List Int) (k : Nat) (x : Int) : Prop where
  lt : k < css.length
  at' : kd L (css.getD k []) = some x
  first : ∀ j, j < k → kd L (css.getD j []) = none
def Calm (css : List (List Int)) (L : List Int) : Prop := ∀ j, j < css.length → kd L (css.getD j []) = none
theorem At.unique {css : List (List Int)} {L : List Int} {k k' : Nat} {x x' : Int} (h : At css L k x) (h' : At css L k' x') : k = k' ∧ x = x' := by
  have e : k = k' := by
    rcases Nat.lt_trichotomy k k' with a | a | a
    · have := h'.first k a; rw [h.at'] at this; cases this
    · exact a
    · have := h.first k' a; rw [h'.at'] at this; cases this
  subst e
  have := h.at'.symm.trans h'.at'
  injection this with this
  exact ⟨rfl, this⟩
theorem At.calm {css : List (List Int)} {L : List Int} {k : Nat} {x : Int} (h : At css L k x) (hc : Calm css L) : False := by
  have := hc k h.lt; rw [h.at'] at this; cases this
/-- a piece of the closing -/
def Pth (css : List (List Int)) : List Int → List (Int × Nat) → Prop
  | _, [] => True
  | L, c :: cs => At css L c.2 c.1 ∧ c.1 ≠ 0 ∧ Pth css (L ++ [c.1]) cs
/-- its end -/
def End (css : List (List Int)) (L : List Int) (e : Int) : Prop := (e = -1 ∧ Calm css L) ∨ ∃ k : Nat, e = k ∧ At css L k 0
def Clo (css : List (List Int)) (L : List Int) (cs : List (Int × Nat)) (e : Int) : Prop := Pth css L cs ∧ End css (L ++ cs.map Prod.fst) e
theorem Pth.snoc {css : List (List Int)} : ∀ {L : List Int} {cs : List (Int × Nat)} {k : Nat} {l : Int}, Pth css L cs → At css (L ++ cs.map Prod.fst) k l → l ≠ 0 → Pth css L (cs ++ [(l, k)])
  | L, [], k, l, _, h, h0 => ⟨by simpa using h, h0, trivial⟩
  | L, c :: cs, k, l, hp, h, h0 => ⟨hp.1, hp.2.1, Pth.snoc hp.2.2 (by simpa using h) h0⟩
theorem Clo.unique {css : List (List Int)} : ∀ {L : List Int} {cs cs' : List (Int × Nat)} {e e' : Int}, Clo css L cs e → Clo css L cs' e' → cs = cs' ∧ e = e'
  | L, [], [], e, e', h, h' => by
    refine ⟨rfl, ?_⟩
    have h2 := h.2; have h2' := h'.2
    simp only [List.map_nil, List.append_nil] at h2 h2'
    rcases h2 with ⟨a, b⟩ | ⟨k, a, b⟩ <;> rcases h2' with ⟨a', b'⟩ | ⟨k', a', b'⟩
    · rw [a, a']
    · exact (b'.calm b).elim
    · exact (b.calm b').elim
    · rw [a, a', (b.unique b').1]
  | L, [], c :: cs, e, e', h, h' => by
    exfalso
    have h2 := h.2
    simp only [List.map_nil, List.append_nil] at h2
    rcases h2 with ⟨a, b⟩ | ⟨k, a, b⟩
    · exact h'.1.1.calm b
    · exact h'.1.2.1 (h'.1.1.unique b).2
  | L, c :: cs, [], e, e', h, h' => by
    exfalso
    have h2 := h'.2
    simp only [List.map_nil, List.append_nil] at h2
    rcases h2 with ⟨a, b⟩ | ⟨k, a, b⟩
    · exact h.1.1.calm b
    · exact h.1.2.1 (h.1.1.unique b).2
  | L, c :: cs, c' :: cs', e, e', h, h' => by
    obtain ⟨e1, e2⟩ := h.1.1.unique h'.1.1
    have hc : c = c' := Prod.ext e2 e1
    subst hc
    obtain ⟨a, b⟩ := Clo.unique (css := css) (L := L ++ [c.1]) (cs := cs) (cs' := cs') ⟨h.1.2.2, by simpa using h.2⟩ ⟨h'.1.2.2, by simpa using h'.2⟩
    exact ⟨by rw [a], b⟩
theorem Pth.get {css : List (List Int)} : ∀ {L : List Int} {cs : List (Int × Nat)}, Pth css L cs → ∀ {i : Nat} (hi : i < cs.length), At css (L ++ (cs.take i).map Prod.fst) (cs[i]).2 (cs[i]).1 ∧ (cs[i]).1 ≠ 0
  | L, [], _, i, hi => by simp at hi
  | L, c :: cs, h, 0, hi => by simpa using ⟨h.1, h.2.1⟩
  | L, c :: cs, h, i + 1, hi => by
    have := Pth.get h.2.2 (i := i) (by simpa using hi)
    simpa using this

/-- what follows by unit clauses -/
inductive Der (css : List (List Int)) (L : List Int) : Int → Prop
  | fact {l : Int} : l ∈ L → Der css L l
  | unit {c : List Int} {l : Int} : c ∈ css → l ∈ c → (∀ m ∈ c, m ≠ l → Der css L (-m)) → Der css L l
def Cla (css : List (List Int)) (L : List Int) : Prop := (∃ l, Der css L l ∧ Der css L (-l)) ∨ ∃ c ∈ css, ∀ m ∈ c, Der css L (-m)
theorem Der.mono {css css' : List (List Int)} {L L' : List Int} (hc : ∀ c ∈ css, ∃ c' ∈ css', ∀ x, x ∈ c ↔ x ∈ c') (hL : ∀ x ∈ L, Der css' L' x) {l : Int} (h : Der css L l) : Der css' L' l := by
  induction h with
  | fact h => exact hL _ h
  | unit h1 h2 h3 ih =>
    obtain ⟨c', g1, g2⟩ := hc _ h1
    exact .unit g1 ((g2 _).1 h2) fun m hm hne => ih m ((g2 m).2 hm) hne
theorem Cla.mono {css css' : List (List Int)} {L L' : List Int} (hc : ∀ c ∈ css, ∃ c' ∈ css', ∀ x, x ∈ c ↔ x ∈ c') (hL : ∀ x ∈ L, Der css' L' x) (h : Cla css L) : Cla css' L' := by
  rcases h with ⟨l, a, b⟩ | ⟨c, a, b⟩
  · exact .inl ⟨l, a.mono hc hL, b.mono hc hL⟩
  · obtain ⟨c', g1, g2⟩ := hc _ a
    exact .inr ⟨c', g1, fun m hm => (b m ((g2 m).2 hm)).mono hc hL⟩
theorem same_css (css : List (List Int)) : ∀ c ∈ css, ∃ c' ∈ css, ∀ x, x ∈ c ↔ x ∈ c' := fun c hc => ⟨c, hc, fun _ => Iff.rfl⟩
theorem Der.trans {css : List (List Int)} {L L' : List Int} (hL : ∀ x ∈ L, Der css L' x) {l : Int} (h : Der css L l) : Der css L' l := h.mono (same_css css) hL
theorem Cla.trans {css : List (List Int)} {L L' : List Int} (hL : ∀ x ∈ L, Der css L' x) (h : Cla css L) : Cla css L' := h.mono (same_css css) hL
/-- no literal beside its opposite -/
def Con (L : List Int) : Prop := ∀ l ∈ L, -l ∉ L
def Nz (css : List (List Int)) : Prop := ∀ c ∈ css, ∀ l ∈ c, l ≠ 0
theorem getD_in {css : List (List Int)} {k : Nat} (h : k < css.length) : css.getD k [] ∈ css := by
  rw [List.getD_eq_getElem?_getD, List.getElem?_eq_getElem h]; exact List.getElem_mem h
theorem in_getD {css : List (List Int)} {c : List Int} (h : c ∈ css) : ∃ k, k < css.length ∧ css.getD k [] = c := by
  obtain ⟨k, hk, e⟩ := List.getElem_of_mem h
  exact ⟨k, hk, by rw [List.getD_eq_getElem?_getD, List.getElem?_eq_getElem hk]; exact e⟩
/-- what a unit clause says -/
theorem At.unit {css : List (List Int)} {L : List Int} {k : Nat} {l : Int} (h : At css L k l) (h0 : l ≠ 0) : l ∈ css.getD k [] ∧ -l ∉ L ∧ l ∉ L ∧ ∀ m ∈ css.getD k [], m ≠ l → -m ∈ L := by
  rcases kd_cases L (css.getD k []) with ⟨e, _⟩ | ⟨e, h1, h2⟩ | ⟨l', e, h1, h2, h3, h4⟩
  · rw [h.at'] at e; cases e
  · rw [h.at'] at e; injection e with e; exact absurd e h0
  · rw [h.at'] at e; injection e with e; subst e; exact ⟨h1, h2, h4 _ h1, h3⟩
theorem At.fls {css : List (List Int)} {L : List Int} {k : Nat} (h : At css L k 0) (nz : Nz css) : ∀ m ∈ css.getD k [], -m ∈ L := by
  rcases kd_cases L (css.getD k []) with ⟨e, _⟩ | ⟨e, h1, h2⟩ | ⟨l', e, h1, h2, h3, h4⟩
  · rw [h.at'] at e; cases e
  · exact h1
  · rw [h.at'] at e; injection e with e; subst e; exact absurd rfl (nz _ (getD_in h.lt) _ h1)
theorem Con.snoc {L : List Int} {l : Int} (h : Con L) (h0 : l ≠ 0) (h1 : -l ∉ L) : Con (L ++ [l]) := by
  intro m hm hn
  rcases List.mem_append.1 hm with a | a
  · rcases List.mem_append.1 hn with b | b
    · exact h m a b
    · have : -m = l := by simpa using b
      exact h1 (by rw [← this]; simpa using a)
  · have e : m = l := by simpa using a
    subst e
    rcases List.mem_append.1 hn with b | b
    · exact h1 b
    · have : -m = m := by simpa using b
      omega
theorem Pth.con {css : List (List Int)} : ∀ {L : List Int} {cs : List (Int × Nat)}, Con L → Pth css L cs → Con (L ++ cs.map Prod.fst)
  | L, [], h, _ => by simpa using h
  | L, c :: cs, h, hp => by
    have := Pth.con (h.snoc hp.2.1 (hp.1.unit hp.2.1).2.1) hp.2.2
    simpa using this
theorem Pth.der {css : List (List Int)} : ∀ {L : List Int} {cs : List (Int × Nat)}, Pth css L cs → ∀ l ∈ L ++ cs.map Prod.fst, Der css L l
  | L, [], _ => fun l hl => .fact (by simpa using hl)
  | L, c :: cs, hp => fun l hl => by
    have h1 := Pth.der hp.2.2 l (by simpa using hl)
    refine h1.trans fun x hx => ?_
    rcases List.mem_append.1 hx with a | a
    · exact .fact a
    · have e : x = c.1 := by simpa using a
      subst e
      obtain ⟨u1, _, _, u4⟩ := hp.1.unit hp.2.1
      exact .unit (getD_in hp.1.lt) u1 fun m hm hne => .fact (u4 m hm hne)
/-- what is calm has all that follows, and no clash does -/
theorem calm_der {css : List (List Int)} {L : List Int} (hc : Con L) (h : Calm css L) : (∀ l, Der css L l → l ∈ L) ∧ ¬ Cla css L := by
  have key : ∀ c ∈ css, ∀ l ∈ c, (∀ m ∈ c, m ≠ l → -m ∈ L) → l ∈ L := by
    intro c hcs l hl hall
    obtain ⟨k, hk, e⟩ := in_getD hcs
    have hz := h k hk
    rw [e] at hz
    refine Classical.byContradiction fun hn => ?_
    have htr : ∀ m ∈ c, m ∉ L := fun m hm hmL => by
      by_cases e : m = l
      · subst e; exact hn hmL
      · exact hc m hmL (hall m hm e)
    by_cases hneg : -l ∈ L
    · have := kd_false (L := L) (c := c) (fun m hm => by
        by_cases e : m = l
        · subst e; exact hneg
        · exact hall m hm e) htr
      rw [hz] at this; cases this
    · have := kd_unit hl hneg hall htr
      rw [hz] at this; cases this
  have d : ∀ l, Der css L l → l ∈ L := by
    intro l hl
    induction hl with
    | fact h => exact h
    | unit h1 h2 h3 ih => exact key _ h1 _ h2 ih
  refine ⟨d, ?_⟩
  rintro (⟨l, a, b⟩ | ⟨c, a, b⟩)
  · exact hc l (d l a) (d _ b)
  · obtain ⟨k, hk, e⟩ := in_getD a
    have hz := h k hk
    rw [e] at hz
    have hf : ∀ m ∈ c, -m ∈ L := fun m hm => d _ (b m hm)
    have := kd_false hf (fun m hm hmL => hc m hmL (hf m hm))
    rw [hz] at this; cases this
/-- the closing comes to what follows -/
theorem Clo.calm {css : List (List Int)} {L : List Int} {cs : List (Int × Nat)} (hc : Con L) (h : Clo css L cs (-1)) : ¬ Cla css L ∧ ∀ l, Der css L l ↔ l ∈ L ++ cs.map Prod.fst := by
  have hk : Calm css (L ++ cs.map Prod.fst) := by
    rcases h.2 with ⟨_, b⟩ | ⟨k, a, _⟩
    · exact b
    · omega
  obtain ⟨h1, h2⟩ := calm_der (Pth.con hc h.1) hk
  have hin : ∀ x ∈ L, Der css (L ++ cs.map Prod.fst) x := fun x hx => .fact (List.mem_append.2 (.inl hx))
  exact ⟨fun h3 => h2 (h3.trans hin), fun l => ⟨fun h3 => h1 l (h3.trans hin), fun h3 => Pth.der h.1 l h3⟩⟩
theorem Clo.clash {css : List (List Int)} {L : List Int} {cs : List (Int × Nat)} {k : Nat} (nz : Nz css) (h : Clo css L cs k) : Cla css L := by
  rcases h.2 with ⟨a, _⟩ | ⟨k', a, b⟩
  · omega
  · refine .inr ⟨_, getD_in b.lt, fun m hm => ?_⟩
    exact Pth.der h.1 _ (b.fls nz m hm)
theorem not_con_cla {css : List (List Int)} {L : List Int} (h : ¬ Con L) : Cla css L := by
  refine Classical.byContradiction fun hn => h fun l h1 h2 => hn (.inl ⟨l, .fact h1, .fact h2⟩)

/-- what Close says -/
def Says6 (css : List (List Int)) (L : List Int) (clash : Bool) (D : List Int) : Prop :=
  (clash = true ∧ Cla css L ∧ D = []) ∨ (clash = false ∧ ¬ Cla css L ∧ (D.Pairwise fun a b => idx a < idx b) ∧ ∀ x, x ∈ D ↔ Der css L x)
theorem Says6.unique {css css' : List (List Int)} {L L' : List Int} {b b' : Bool} {D D' : List Int} (hd : ∀ x, Der css L x ↔ Der css' L' x) (hc : Cla css L ↔ Cla css' L') (h : Says6 css L b D) (h' : Says6 css' L' b' D') : b = b' ∧ D = D' := by
  rcases h with ⟨e, c, d⟩ | ⟨e, c, d, f⟩ <;> rcases h' with ⟨e', c', d'⟩ | ⟨e', c', d', f'⟩
  · exact ⟨by rw [e, e'], by rw [d, d']⟩
  · exact absurd (hc.1 c) c'
  · exact absurd (hc.2 c') c
  · exact ⟨by rw [e, e'], rising_unique d d' fun x => (f x).trans ((hd x).trans (f' x).symm)⟩
end Go.Proofs.YtjajafeaengnjaaGreatDoor
set_option linter.unusedSimpArgs false
set_option linter.unusedVariables false
namespace Go.Proofs.YtjajafeaengnjaaGreatDoor

/-- what holds in the midst of putting a and b together: i and j are looked at, out is made -/
structure MI (a b : List Int) (i j : Nat) (out : List Int) : Prop where
  hi : i ≤ a.length
  hj : j ≤ b.length
  rise : out.Pairwise (fun x y => idx x < idx y)
  mem : ∀ x, x ∈ out ↔ x ∈ a.take i ∨ x ∈ b.take j
  lowA : ∀ x ∈ out, i < a.length → idx x < idx (a.getD i 0)
  lowB : ∀ x ∈ out, j < b.length → idx x < idx (b.getD j 0)

theorem MI.start (a b : List Int) : MI a b 0 0 [] := ⟨Nat.zero_le _, Nat.zero_le _, List.Pairwise.nil, by simp, by simp, by simp⟩

theorem mem_take_succ {a : List Int} {i : Nat} (h : i < a.length) (x : Int) : x ∈ a.take (i + 1) ↔ x ∈ a.take i ∨ x = a.getD i 0 := by
  rw [List.take_succ_eq_append_getElem h, List.mem_append, List.mem_singleton, List.getD_eq_getElem?_getD, List.getElem?_eq_getElem h]; rfl
theorem rise_getD {a : List Int} (ha : a.Pairwise (fun x y => idx x < idx y)) {i j : Nat} (h : i < j) (hj : j < a.length) : idx (a.getD i 0) < idx (a.getD j 0) := by
  have := List.pairwise_iff_getElem.1 ha i j (by omega) hj h
  simpa [List.getD_eq_getElem?_getD, List.getElem?_eq_getElem hj, List.getElem?_eq_getElem (show i < a.length by omega)] using this
theorem rise_snoc {out : List Int} {y : Int} (h : out.Pairwise (fun x y => idx x < idx y)) (hl : ∀ x ∈ out, idx x < idx y) : (out ++ [y]).Pairwise (fun x y => idx x < idx y) := by
  rw [List.pairwise_append]
  exact ⟨h, by simp, fun x hx z hz => by rw [List.mem_singleton] at hz; subst hz; exact hl x hx⟩

theorem MI.stepA {a b : List Int} {i j : Nat} {out : List Int} (h : MI a b i j out) (ha : a.Pairwise (fun x y => idx x < idx y)) (hi : i < a.length) (hc : j < b.length → idx (a.getD i 0) < idx (b.getD j 0)) : MI a b (i + 1) j (out ++ [a.getD i 0]) := by
  refine ⟨by omega, h.hj, rise_snoc h.rise fun x hx => h.lowA x hx hi, fun x => ?_, fun x hx hi' => ?_, fun x hx hj => ?_⟩
  · rw [List.mem_append, List.mem_singleton, h.mem x, mem_take_succ hi x]
    constructor
    · rintro ((p | p) | p) <;> simp [p]
    · rintro ((p | p) | p) <;> simp [p]
  · have h1 := rise_getD ha (show i < i + 1 by omega) hi'
    rcases List.mem_append.1 hx with p | p
    · have := h.lowA x p hi; omega
    · rw [List.mem_singleton] at p; subst p; exact h1
  · rcases List.mem_append.1 hx with p | p
    · exact h.lowB x p hj
    · rw [List.mem_singleton] at p; subst p; exact hc hj
theorem MI.stepB {a b : List Int} {i j : Nat} {out : List Int} (h : MI a b i j out) (hb : b.Pairwise (fun x y => idx x < idx y)) (hj : j < b.length) (hc : i < a.length → idx (b.getD j 0) < idx (a.getD i 0)) : MI a b i (j + 1) (out ++ [b.getD j 0]) := by
  refine ⟨h.hi, by omega, rise_snoc h.rise fun x hx => h.lowB x hx hj, fun x => ?_, fun x hx hi => ?_, fun x hx hj' => ?_⟩
  · rw [List.mem_append, List.mem_singleton, h.mem x, mem_take_succ hj x]
    constructor
    · rintro ((p | p) | p) <;> simp [p]
    · rintro (p | p | p) <;> simp [p]
  · rcases List.mem_append.1 hx with p | p
    · exact h.lowA x p hi
    · rw [List.mem_singleton] at p; subst p; exact hc hi
  · have h1 := rise_getD hb (show j < j + 1 by omega) hj'
    rcases List.mem_append.1 hx with p | p
    · have := h.lowB x p hj; omega
    · rw [List.mem_singleton] at p; subst p; exact h1
theorem MI.stepAB {a b : List Int} {i j : Nat} {out : List Int} (h : MI a b i j out) (ha : a.Pairwise (fun x y => idx x < idx y)) (hb : b.Pairwise (fun x y => idx x < idx y)) (hi : i < a.length) (hj : j < b.length) (he : a.getD i 0 = b.getD j 0) : MI a b (i + 1) (j + 1) (out ++ [a.getD i 0]) := by
  refine ⟨by omega, by omega, rise_snoc h.rise fun x hx => h.lowA x hx hi, fun x => ?_, fun x hx hi' => ?_, fun x hx hj' => ?_⟩
  · rw [List.mem_append, List.mem_singleton, h.mem x, mem_take_succ hi x, mem_take_succ hj x, ← he]
    constructor
    · rintro ((p | p) | p) <;> simp [p]
    · rintro ((p | p) | p | p) <;> simp [p]
  · have h1 := rise_getD ha (show i < i + 1 by omega) hi'
    rcases List.mem_append.1 hx with p | p
    · have := h.lowA x p hi; omega
    · rw [List.mem_singleton] at p; subst p; exact h1
  · have h1 := rise_getD hb (show j < j + 1 by omega) hj'
    rcases List.mem_append.1 hx with p | p
    · have := h.lowB x p hj; omega
    · rw [List.mem_singleton] at p; subst p; rw [he]; exact h1
theorem MI.out_mem {a b : List Int} {i j : Nat} {out : List Int} (h : MI a b i j out) {x : Int} (hx : x ∈ out) : x ∈ a ∨ x ∈ b := by
  rcases (h.mem x).1 hx with p | p
  · exact .inl (List.mem_of_mem_take p)
  · exact .inr (List.mem_of_mem_take p)
theorem MI.len {a b : List Int} {i j : Nat} {out : List Int} (h : MI a b i j out) (fa : ∀ x ∈ a, fmd x = true) (fb : ∀ x ∈ b, fmd x = true) : out.length ≤ 2097152 := by
  have := rising_len 2097152 out 0 (by omega) h.rise fun x hx => idx_range (by rcases h.out_mem hx with p | p; exact fa x p; exact fb x p)
  omega
theorem MI.fin {a b : List Int} {out : List Int} (h : MI a b a.length b.length out) (fa : ∀ x ∈ a, fmd x = true) (fb : ∀ x ∈ b, fmd x = true) : out = tid (a ++ b) := by
  refine eq_tid h.rise fun x => ?_
  rw [h.mem x, List.take_length, List.take_length, List.mem_append]
  constructor
  · rintro (p | p)
    · exact ⟨.inl p, fa x p⟩
    · exact ⟨.inr p, fb x p⟩
  · rintro ⟨p, _⟩; exact p

theorem tid_id {t : List Int} (hr : t.Pairwise (fun x y => idx x < idx y)) (hf : ∀ x ∈ t, fmd x = true) : tid t = t :=
  (eq_tid hr fun x => ⟨fun h => ⟨h, hf x h⟩, fun h => h.1⟩).symm
theorem tid_join (a b : List Int) : tid (tid a ++ tid b) = tid (a ++ b) :=
  tid_congr fun x hx => by simp [mem_tid, hx]
theorem tid_halves (zs : List Int) (h : Nat) : tid (tid (zs.take h) ++ tid (zs.drop h)) = tid zs := by
  rw [tid_join, List.take_append_drop]

theorem rising_sublist : ∀ {l l' : List Int}, l.Pairwise (fun a b => idx a < idx b) → l'.Pairwise (fun a b => idx a < idx b) → (∀ x ∈ l, x ∈ l') → l.Sublist l'
  | [], _, _, _, _ => List.nil_sublist _
  | a :: r, [], _, _, h => by have := h a (by simp); simp at this
  | a :: r, b :: r', h1, h2, h => by
    have h1' := h1
    rw [List.pairwise_cons] at h1 h2
    by_cases e : a = b
    · subst e
      refine List.Sublist.cons_cons _ (rising_sublist h1.2 h2.2 fun x hx => ?_)
      rcases List.mem_cons.1 (h x (List.mem_cons_of_mem _ hx)) with p | p
      · subst p; have := h1.1 x hx; omega
      · exact p
    · refine List.Sublist.cons _ (rising_sublist h1' h2.2 fun x hx => ?_)
      have ha : a ∈ r' := by
        rcases List.mem_cons.1 (h a (by simp)) with p | p
        · exact absurd p e
        · exact p
      have hba := h2.1 a ha
      rcases List.mem_cons.1 hx with p | p
      · subst p; exact ha
      · rcases List.mem_cons.1 (h x hx) with q | q
        · subst q; have := h1.1 x p; omega
        · exact q

end Go.Proofs.YtjajafeaengnjaaGreatDoor
namespace Go.Proofs.YtjajafeaengnjaaGreatDoor
abbrev Stp := Bool × List Int
end Go.Proofs.YtjajafeaengnjaaGreatDoor
