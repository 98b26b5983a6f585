/-
  Plain mathematics for the document's answer: two rising lists put together.
-/
import Derived.Test.YtfklgfdkpmfdnaaDoorPlain
set_option linter.unusedSimpArgs false
set_option linter.unusedVariables false
namespace Go.Proofs.YtfklgfdkpmfdnaaDoor

/-- what holds in the midst of putting a and b together: i and j are looked at, out is made -/
structure MI (a b : List Int) (i j : Nat) (out : List Int) : Prop where
  hi : i ≤ a.length
  hj : j ≤ b.length
  rise : out.Pairwise (fun x y => idx x < idx y)
  mem : ∀ x, x ∈ out ↔ x ∈ a.take i ∨ x ∈ b.take j
  lowA : ∀ x ∈ out, i < a.length → idx x < idx (a.getD i 0)
  lowB : ∀ x ∈ out, j < b.length → idx x < idx (b.getD j 0)

theorem MI.start (a b : List Int) : MI a b 0 0 [] := ⟨Nat.zero_le _, Nat.zero_le _, List.Pairwise.nil, by simp, by simp, by simp⟩

theorem mem_take_succ {a : List Int} {i : Nat} (h : i < a.length) (x : Int) : x ∈ a.take (i + 1) ↔ x ∈ a.take i ∨ x = a.getD i 0 := by
  rw [List.take_succ_eq_append_getElem h, List.mem_append, List.mem_singleton, List.getD_eq_getElem?_getD, List.getElem?_eq_getElem h]; rfl
theorem rise_getD {a : List Int} (ha : a.Pairwise (fun x y => idx x < idx y)) {i j : Nat} (h : i < j) (hj : j < a.length) : idx (a.getD i 0) < idx (a.getD j 0) := by
  have := List.pairwise_iff_getElem.1 ha i j (by omega) hj h
  simpa [List.getD_eq_getElem?_getD, List.getElem?_eq_getElem hj, List.getElem?_eq_getElem (show i < a.length by omega)] using this
theorem rise_snoc {out : List Int} {y : Int} (h : out.Pairwise (fun x y => idx x < idx y)) (hl : ∀ x ∈ out, idx x < idx y) : (out ++ [y]).Pairwise (fun x y => idx x < idx y) := by
  rw [List.pairwise_append]
  exact ⟨h, by simp, fun x hx z hz => by rw [List.mem_singleton] at hz; subst hz; exact hl x hx⟩

theorem MI.stepA {a b : List Int} {i j : Nat} {out : List Int} (h : MI a b i j out) (ha : a.Pairwise (fun x y => idx x < idx y)) (hi : i < a.length) (hc : j < b.length → idx (a.getD i 0) < idx (b.getD j 0)) : MI a b (i + 1) j (out ++ [a.getD i 0]) := by
  refine ⟨by omega, h.hj, rise_snoc h.rise fun x hx => h.lowA x hx hi, fun x => ?_, fun x hx hi' => ?_, fun x hx hj => ?_⟩
  · rw [List.mem_append, List.mem_singleton, h.mem x, mem_take_succ hi x]
    constructor
    · rintro ((p | p) | p) <;> simp [p]
    · rintro ((p | p) | p) <;> simp [p]
  · have h1 := rise_getD ha (show i < i + 1 by omega) hi'
    rcases List.mem_append.1 hx with p | p
    · have := h.lowA x p hi; omega
    · rw [List.mem_singleton] at p; subst p; exact h1
  · rcases List.mem_append.1 hx with p | p
    · exact h.lowB x p hj
    · rw [List.mem_singleton] at p; subst p; exact hc hj
theorem MI.stepB {a b : List Int} {i j : Nat} {out : List Int} (h : MI a b i j out) (hb : b.Pairwise (fun x y => idx x < idx y)) (hj : j < b.length) (hc : i < a.length → idx (b.getD j 0) < idx (a.getD i 0)) : MI a b i (j + 1) (out ++ [b.getD j 0]) := by
  refine ⟨h.hi, by omega, rise_snoc h.rise fun x hx => h.lowB x hx hj, fun x => ?_, fun x hx hi => ?_, fun x hx hj' => ?_⟩
  · rw [List.mem_append, List.mem_singleton, h.mem x, mem_take_succ hj x]
    constructor
    · rintro ((p | p) | p) <;> simp [p]
    · rintro (p | p | p) <;> simp [p]
  · rcases List.mem_append.1 hx with p | p
    · exact h.lowA x p hi
    · rw [List.mem_singleton] at p; subst p; exact hc hi
  · have h1 := rise_getD hb (show j < j + 1 by omega) hj'
    rcases List.mem_append.1 hx with p | p
    · have := h.lowB x p hj; omega
    · rw [List.mem_singleton] at p; subst p; exact h1
theorem MI.stepAB {a b : List Int} {i j : Nat} {out : List Int} (h : MI a b i j out) (ha : a.Pairwise (fun x y => idx x < idx y)) (hb : b.Pairwise (fun x y => idx x < idx y)) (hi : i < a.length) (hj : j < b.length) (he : a.getD i 0 = b.getD j 0) : MI a b (i + 1) (j + 1) (out ++ [a.getD i 0]) := by
  refine ⟨by omega, by omega, rise_snoc h.rise fun x hx => h.lowA x hx hi, fun x => ?_, fun x hx hi' => ?_, fun x hx hj' => ?_⟩
  · rw [List.mem_append, List.mem_singleton, h.mem x, mem_take_succ hi x, mem_take_succ hj x, ← he]
    constructor
    · rintro ((p | p) | p) <;> simp [p]
    · rintro ((p | p) | p | p) <;> simp [p]
  · have h1 := rise_getD ha (show i < i + 1 by omega) hi'
    rcases List.mem_append.1 hx with p | p
    · have := h.lowA x p hi; omega
    · rw [List.mem_singleton] at p; subst p; exact h1
  · have h1 := rise_getD hb (show j < j + 1 by omega) hj'
    rcases List.mem_append.1 hx with p | p
    · have := h.lowB x p hj; omega
    · rw [List.mem_singleton] at p; subst p; rw [he]; exact h1
theorem MI.out_mem {a b : List Int} {i j : Nat} {out : List Int} (h : MI a b i j out) {x : Int} (hx : x ∈ out) : x ∈ a ∨ x ∈ b := by
  rcases (h.mem x).1 hx with p | p
  · exact .inl (List.mem_of_mem_take p)
  · exact .inr (List.mem_of_mem_take p)
theorem MI.len {a b : List Int} {i j : Nat} {out : List Int} (h : MI a b i j out) (fa : ∀ x ∈ a, fmd x = true) (fb : ∀ x ∈ b, fmd x = true) : out.length ≤ 2097152 := by
  have := rising_len 2097152 out 0 (by omega) h.rise fun x hx => idx_range (by rcases h.out_mem hx with p | p; exact fa x p; exact fb x p)
  omega
theorem MI.fin {a b : List Int} {out : List Int} (h : MI a b a.length b.length out) (fa : ∀ x ∈ a, fmd x = true) (fb : ∀ x ∈ b, fmd x = true) : out = tid (a ++ b) := by
  refine eq_tid h.rise fun x => ?_
  rw [h.mem x, List.take_length, List.take_length, List.mem_append]
  constructor
  · rintro (p | p)
    · exact ⟨.inl p, fa x p⟩
    · exact ⟨.inr p, fb x p⟩
  · rintro ⟨p, _⟩; exact p

theorem tid_id {t : List Int} (hr : t.Pairwise (fun x y => idx x < idx y)) (hf : ∀ x ∈ t, fmd x = true) : tid t = t :=
  (eq_tid hr fun x => ⟨fun h => ⟨h, hf x h⟩, fun h => h.1⟩).symm
theorem tid_join (a b : List Int) : tid (tid a ++ tid b) = tid (a ++ b) :=
  tid_congr fun x hx => by simp [mem_tid, hx]
theorem tid_halves (zs : List Int) (h : Nat) : tid (tid (zs.take h) ++ tid (zs.drop h)) = tid zs := by
  rw [tid_join, List.take_append_drop]

theorem rising_sublist : ∀ {l l' : List Int}, l.Pairwise (fun a b => idx a < idx b) → l'.Pairwise (fun a b => idx a < idx b) → (∀ x ∈ l, x ∈ l') → l.Sublist l'
  | [], _, _, _, _ => List.nil_sublist _
  | a :: r, [], _, _, h => by have := h a (by simp); simp at this
  | a :: r, b :: r', h1, h2, h => by
    have h1' := h1
    rw [List.pairwise_cons] at h1 h2
    by_cases e : a = b
    · subst e
      refine List.Sublist.cons_cons _ (rising_sublist h1.2 h2.2 fun x hx => ?_)
      rcases List.mem_cons.1 (h x (List.mem_cons_of_mem _ hx)) with p | p
      · subst p; have := h1.1 x hx; omega
      · exact p
    · refine List.Sublist.cons _ (rising_sublist h1' h2.2 fun x hx => ?_)
      have ha : a ∈ r' := by
        rcases List.mem_cons.1 (h a (by simp)) with p | p
        · exact absurd p e
        · exact p
      have hba := h2.1 a ha
      rcases List.mem_cons.1 hx with p | p
      · subst p; exact ha
      · rcases List.mem_cons.1 (h x hx) with q | q
        · subst q; have := h1.1 x p; omega
        · exact q

end Go.Proofs.YtfklgfdkpmfdnaaDoor
