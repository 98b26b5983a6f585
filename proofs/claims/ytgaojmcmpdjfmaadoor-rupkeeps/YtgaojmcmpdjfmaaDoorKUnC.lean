/-
  unit: how many literals are left; where a literal stands; what the waiting clauses are. No program here.
-/
import Derived.Test.YtgaojmcmpdjfmaaDoorJPlain
import Derived.Test.YtgaojmcmpdjfmaaDoorUnB
set_option linter.unusedSimpArgs false
set_option linter.unusedVariables false
namespace Go.Proofs.YtgaojmcmpdjfmaaDoor

/-- each once -/
def dd : List Int → List Int
  | [] => []
  | x :: r => if x ∈ r then dd r else x :: dd r
theorem mem_dd : ∀ {c : List Int} {x : Int}, x ∈ dd c ↔ x ∈ c
  | [], x => by simp [dd]
  | y :: r, x => by
    unfold dd
    split
    · rename_i h
      rw [mem_dd, List.mem_cons]
      constructor
      · exact fun h => .inr h
      · rintro (e | e)
        · subst e; exact h
        · exact e
    · rw [List.mem_cons, mem_dd, List.mem_cons]
theorem dd_nodup : ∀ c : List Int, (dd c).Nodup
  | [] => List.nodup_nil
  | y :: r => by
    unfold dd
    split
    · exact dd_nodup r
    · rename_i h
      exact List.nodup_cons.2 ⟨fun h2 => h (mem_dd.1 h2), dd_nodup r⟩
theorem nodup_len6 {a b : List Int} (ha : a.Nodup) (hb : b.Nodup) (h : ∀ x, x ∈ a ↔ x ∈ b) : a.length = b.length := ((List.perm_ext_iff_of_nodup ha hb).2 h).length_eq
/-- how many literals of a clause, each once, aren't false -/
def opl (L c : List Int) : List Int := (dd c).filter (fun l => decide (-l ∉ L))
def cnt (L c : List Int) : Nat := (opl L c).length
theorem mem_opl {L c : List Int} {x : Int} : x ∈ opl L c ↔ x ∈ c ∧ -x ∉ L := by
  unfold opl; rw [List.mem_filter, mem_dd, decide_eq_true_eq]
theorem opl_nodup (L c : List Int) : (opl L c).Nodup := (dd_nodup c).filter _
theorem cnt_congr {L L' c c' : List Int} (hc : ∀ x, x ∈ c ↔ x ∈ c') (hL : ∀ x ∈ c, (-x ∈ L ↔ -x ∈ L')) : cnt L c = cnt L' c' :=
  nodup_len6 (opl_nodup _ _) (opl_nodup _ _) fun x => by
    rw [mem_opl, mem_opl]
    constructor
    · rintro ⟨a, b⟩; exact ⟨(hc x).1 a, fun h => b ((hL x a).2 h)⟩
    · rintro ⟨a, b⟩; exact ⟨(hc x).2 a, fun h => b ((hL x ((hc x).2 a)).1 h)⟩
theorem dd_le : ∀ c : List Int, (dd c).length ≤ c.length
  | [] => Nat.le_refl _
  | y :: r => by
    have := dd_le r
    unfold dd
    split
    · simp; omega
    · simp; omega
theorem cnt_le (L c : List Int) : cnt L c ≤ c.length := Nat.le_trans (List.length_filter_le _ _) (dd_le c)
theorem cnt_nil (L : List Int) : cnt L [] = 0 := rfl
theorem cnt_zero {L c : List Int} : cnt L c = 0 ↔ ∀ m ∈ c, -m ∈ L := by
  unfold cnt
  rw [List.length_eq_zero_iff, List.eq_nil_iff_forall_not_mem]
  constructor
  · intro h m hm
    exact Classical.byContradiction fun hn => h m (mem_opl.2 ⟨hm, hn⟩)
  · intro h x hx
    exact (mem_opl.1 hx).2 (h x (mem_opl.1 hx).1)
theorem cnt_one {L c : List Int} {l : Int} (h : cnt L c ≤ 1) (hl : l ∈ c) (h1 : -l ∉ L) : ∀ m ∈ c, m ≠ l → -m ∈ L := by
  intro m hm hne
  refine Classical.byContradiction fun hn => ?_
  have a1 := mem_opl.2 ⟨hl, h1⟩
  have a2 := mem_opl.2 ⟨hm, hn⟩
  have hlen : (opl L c).length ≤ 1 := h
  match hx : opl L c, a1, a2, hlen with
  | [y], a1, a2, _ =>
    have e1 : l = y := by simpa using a1
    have e2 : m = y := by simpa using a2
    exact hne (e2.trans e1.symm)
  | y :: z :: r, _, _, h3 => simp at h3
theorem cnt_two {L c : List Int} (h : 2 ≤ cnt L c) : ∃ m ∈ c, ∃ m' ∈ c, m ≠ m' ∧ -m ∉ L ∧ -m' ∉ L := by
  have hlen : 2 ≤ (opl L c).length := h
  have hnd := opl_nodup L c
  match hx : opl L c, hlen, hnd with
  | y :: z :: r, _, hnd =>
    have a1 : y ∈ opl L c := by rw [hx]; simp
    have a2 : z ∈ opl L c := by rw [hx]; simp
    rw [mem_opl] at a1 a2
    have : y ≠ z := by
      rw [List.nodup_cons] at hnd
      intro e; exact hnd.1 (by rw [e]; simp)
    exact ⟨y, a1.1, z, a2.1, this, a1.2, a2.2⟩
/-- a literal more in L -/
theorem cnt_put {L c : List Int} {l : Int} (hl : l ∉ L) : cnt (L ++ [l]) c = cnt L c - (if -l ∈ c then 1 else 0) := by
  have e : opl (L ++ [l]) c = (opl L c).filter (fun x => x != -l) := by
    unfold opl
    rw [List.filter_filter]
    apply List.filter_congr
    intro x _
    rw [Bool.eq_iff_iff]
    simp only [decide_eq_true_eq, List.mem_append, List.mem_singleton, Bool.and_eq_true, bne_iff_ne, ne_eq]
    constructor
    · intro h; exact ⟨fun e => h (.inr (by omega)), fun h2 => h (.inl h2)⟩
    · rintro ⟨h1, h2⟩ (h3 | h3)
      · exact h2 h3
      · exact h1 (by omega)
  unfold cnt
  rw [e, ← List.Nodup.erase_eq_filter (opl_nodup L c)]
  by_cases h : -l ∈ c
  · rw [if_pos h, List.length_erase_of_mem (mem_opl.2 ⟨h, by simpa using hl⟩)]
  · rw [if_neg h, List.erase_of_not_mem (fun h2 => h (mem_opl.1 h2).1)]; rfl
theorem cnt_pos {L c : List Int} {l : Int} (hl : l ∉ L) (h : -l ∈ c) : 1 ≤ cnt L c := by
  have : -l ∈ opl L c := mem_opl.2 ⟨h, by simpa using hl⟩
  exact List.length_pos_of_mem this
/-- a literal more in a clause -/
theorem cnt_more {c : List Int} {l : Int} : cnt [] (c ++ [l]) = cnt [] c + (if l ∈ c then 0 else 1) := by
  by_cases h : l ∈ c
  · rw [if_pos h]
    exact cnt_congr (fun x => by
      rw [List.mem_append, List.mem_singleton]
      exact ⟨fun h2 => h2.elim id (fun e => e ▸ h), .inl⟩) (fun x _ => Iff.rfl)
  · rw [if_neg h]
    have e2 : cnt [] c + 1 = (opl [] c ++ [l]).length := by rw [List.length_append]; rfl
    rw [e2]
    refine nodup_len6 (opl_nodup _ _) ?_ fun x => ?_
    · rw [List.nodup_append]
      refine ⟨opl_nodup _ _, by simp, fun a ha b hb => ?_⟩
      have e : b = l := by simpa using hb
      subst e
      intro e2; subst e2
      exact h (mem_opl.1 ha).1
    · rw [mem_opl, List.mem_append, List.mem_append, mem_opl]
      simp

/-- what of the literals stands in L, by Index -/
def inLs (n : Nat) (L : List Int) : List Bool := (List.range n).map (fun (i : Nat) => decide (litAt (i : Int) ∈ L))
def lefts (css : List (List Int)) (L : List Int) : List Int := css.map (fun c => (cnt L c : Int))
theorem inLs_len (n : Nat) (L : List Int) : (inLs n L).length = n := by simp [inLs]
theorem inLs_at {n : Nat} {L : List Int} {l : Int} (hf : fmd l = true) {i : Nat} (hi : idx l = i) (hn : i < n) : (inLs n L)[i]? = some (decide (l ∈ L)) := by
  unfold inLs
  rw [List.getElem?_map, List.getElem?_range hn]
  show some (decide (litAt (i : Int) ∈ L)) = _
  rw [← hi, litAt_idx hf]
theorem litAt_inj {i j : Nat} (hi : i < 2097152) (hj : j < 2097152) (h : litAt (i : Int) = litAt (j : Int)) : i = j := by
  rcases Int.emod_two_eq (i : Int) with a | a <;> rcases Int.emod_two_eq (j : Int) with b | b
  · rw [litAt_even (by omega) (by omega) a, litAt_even (by omega) (by omega) b] at h; omega
  · rw [litAt_even (by omega) (by omega) a, litAt_odd (by omega) (by omega) b] at h; omega
  · rw [litAt_odd (by omega) (by omega) a, litAt_even (by omega) (by omega) b] at h; omega
  · rw [litAt_odd (by omega) (by omega) a, litAt_odd (by omega) (by omega) b] at h; omega
theorem inLs_set {n : Nat} {L L' : List Int} {l : Int} (hN : n ≤ 2097152) (hf : fmd l = true) {i : Nat} (hi : idx l = i) (b : Bool) (hb : b = decide (l ∈ L')) (ho : ∀ x, x ≠ l → (x ∈ L' ↔ x ∈ L)) : (inLs n L).set i b = inLs n L' := by
  apply List.ext_getElem?
  intro j
  by_cases hj : j < n
  · by_cases e : i = j
    · subst e
      rw [List.getElem?_set_self (by rw [inLs_len]; exact hj), inLs_at hf hi hj, hb]
    · rw [List.getElem?_set_ne e]
      unfold inLs
      rw [List.getElem?_map, List.getElem?_map, List.getElem?_range hj]
      show some (decide (litAt (j : Int) ∈ L)) = some (decide (litAt (j : Int) ∈ L'))
      have hne : litAt (j : Int) ≠ l := by
        intro h
        rw [← litAt_idx hf, hi] at h
        have hr := idx_range hf
        exact e (litAt_inj (by omega) (by omega) h.symm)
      congr 1
      rw [Bool.eq_iff_iff, decide_eq_true_eq, decide_eq_true_eq]
      exact (ho _ hne).symm
  · rw [List.getElem?_eq_none (by rw [List.length_set, inLs_len]; omega), List.getElem?_eq_none (by rw [inLs_len]; omega)]
theorem inLs_congr {n : Nat} {L L' : List Int} (hN : n ≤ 2097152) (h : ∀ x, fmd x = true → idx x < n → (x ∈ L ↔ x ∈ L')) : inLs n L = inLs n L' := by
  unfold inLs
  apply List.map_congr_left
  intro i hi
  have hi := List.mem_range.1 hi
  have hl : fmd (litAt (i : Int)) = true ∧ idx (litAt (i : Int)) = i := by
    rcases Int.emod_two_eq (i : Int) with a | a
    · rw [litAt_even (by omega) (by omega) a]
      have hf : fmd ((i : Int) / 2 + 1) = true := fmd_true (by omega) (by omega) (by omega)
      exact ⟨hf, by rw [(there_pos hf (by omega)).1]; omega⟩
    · rw [litAt_odd (by omega) (by omega) a]
      have hf : fmd (-((i : Int) / 2 + 1)) = true := fmd_true (by omega) (by omega) (by omega)
      exact ⟨hf, by rw [(there_neg hf (by omega)).1]; omega⟩
  rw [Bool.eq_iff_iff, decide_eq_true_eq, decide_eq_true_eq]
  exact h _ hl.1 (by rw [hl.2]; omega)

/-- a chain of places -/
inductive Ch (P : List (Nat × Nat)) : Nat → List Nat → Prop
  | nil : Ch P 0 []
  | cons {p k q : Nat} {ks : List Nat} : 0 < p → P[p]? = some (k, q) → q < p → Ch P q ks → Ch P p (k :: ks)
theorem Ch.more {P : List (Nat × Nat)} {p : Nat} {ks : List Nat} (h : Ch P p ks) (x : Nat × Nat) : Ch (P ++ [x]) p ks := by
  induction h with
  | nil => exact .nil
  | cons h1 h2 h3 _ ih => exact .cons h1 (by rw [List.getElem?_append_left (List.getElem?_eq_some_iff.1 h2).1]; exact h2) h3 ih
theorem Ch.inv {P : List (Nat × Nat)} {p : Nat} {ks : List Nat} (h : Ch P p ks) (hp : 0 < p) : ∃ k q r, P[p]? = some (k, q) ∧ q < p ∧ ks = k :: r ∧ Ch P q r := by
  cases h with
  | nil => omega
  | cons h1 h2 h3 h4 => exact ⟨_, _, _, h2, h3, rfl, h4⟩
theorem Ch.zero {P : List (Nat × Nat)} {ks : List Nat} (h : Ch P 0 ks) : ks = [] := by
  cases h with
  | nil => rfl
  | cons h1 _ _ _ => omega
/-- where the literals stand -/
structure Pls (X : List (List Int)) (n : Nat) (F : List Nat) (P : List (Nat × Nat)) : Prop where
  len : F.length = n
  pos : 0 < P.length
  ch : ∀ (i p : Nat), F[i]? = some p → p < P.length ∧ ∃ ks, Ch P p ks ∧ ks.Pairwise (· > ·) ∧ ∀ k, k ∈ ks ↔ litAt (i : Int) ∈ X.getD k []
  num : ∀ (p k q : Nat), 0 < p → P[p]? = some (k, q) → k < X.length ∧ q < p
/-- one more -/
theorem getD_set_self {X : List (List Int)} {m : Nat} {c : List Int} (h : m < X.length) : (X.set m c).getD m [] = c := by
  rw [List.getD_eq_getElem?_getD, List.getElem?_set_self h]; rfl
theorem getD_set_ne {X : List (List Int)} {m k : Nat} {c : List Int} (h : m ≠ k) : (X.set m c).getD k [] = X.getD k [] := by
  rw [List.getD_eq_getElem?_getD, List.getElem?_set_ne h, List.getD_eq_getElem?_getD]
theorem Pls.same {X : List (List Int)} {n : Nat} {F : List Nat} {P : List (Nat × Nat)} (h : Pls X n F P) {m : Nat} {l : Int} (hm : m < X.length) (hl : l ∈ X.getD m []) : Pls (X.set m (X.getD m [] ++ [l])) n F P := by
  refine ⟨h.len, h.pos, fun i p hi => ?_, fun p k q hp hq => by rw [List.length_set]; exact h.num p k q hp hq⟩
  obtain ⟨h1, ks, h2, h3, h4⟩ := h.ch i p hi
  refine ⟨h1, ks, h2, h3, fun k => (h4 k).trans ?_⟩
  by_cases e : m = k
  · subst e
    rw [getD_set_self hm, List.mem_append, List.mem_singleton]
    constructor
    · exact .inl
    · rintro (a | a)
      · exact a
      · rw [a]; exact hl
  · rw [getD_set_ne e]
theorem Pls.add {X : List (List Int)} {n : Nat} {F : List Nat} {P : List (Nat × Nat)} (h : Pls X n F P) (hn : n ≤ 2097152) {m i p : Nat} {l : Int} (hm : m < X.length) (hl : l ∉ X.getD m []) (hgt : ∀ k, m < k → X.getD k [] = []) (hf : fmd l = true) (hi : idx l = i) (hp : F[i]? = some p) :
    Pls (X.set m (X.getD m [] ++ [l])) n (F.set i P.length) (P ++ [(m, p)]) := by
  have hin := (List.getElem?_eq_some_iff.1 hp).1
  refine ⟨by rw [List.length_set]; exact h.len, by simp, fun j q hj => ?_, fun r k q hr hq => ?_⟩
  · have hjn : j < n := by have := (List.getElem?_eq_some_iff.1 hj).1; rw [List.length_set, h.len] at this; exact this
    by_cases e : i = j
    · subst e
      rw [List.getElem?_set_self hin] at hj
      injection hj with hj
      subst hj
      obtain ⟨h1, ks, h2, h3, h4⟩ := h.ch i p hp
      refine ⟨by simp, m :: ks, .cons h.pos (by rw [List.getElem?_append_right (Nat.le_refl _)]; simp) h1 (h2.more _), ?_, fun k => ?_⟩
      · rw [List.pairwise_cons]
        refine ⟨fun k hk => ?_, h3⟩
        have hk2 := (h4 k).1 hk
        rw [← hi, litAt_idx hf] at hk2
        rcases Nat.lt_trichotomy k m with a | a | a
        · exact a
        · subst a; exact absurd hk2 hl
        · rw [hgt k a] at hk2; simp at hk2
      · rw [List.mem_cons, h4 k, ← hi, litAt_idx hf]
        by_cases e2 : m = k
        · subst e2
          rw [getD_set_self hm]
          simp
        · rw [getD_set_ne e2]
          constructor
          · rintro (a | a)
            · exact absurd a.symm e2
            · exact a
          · exact .inr
    · rw [List.getElem?_set_ne e] at hj
      obtain ⟨h1, ks, h2, h3, h4⟩ := h.ch j q hj
      refine ⟨by simp; omega, ks, h2.more _, h3, fun k => (h4 k).trans ?_⟩
      by_cases e2 : m = k
      · subst e2
        rw [getD_set_self hm, List.mem_append, List.mem_singleton]
        constructor
        · exact .inl
        · rintro (a | a)
          · exact a
          · exfalso
            have hin2 : i < n := by rw [← h.len]; exact hin
            rw [← litAt_idx hf, hi] at a
            exact e (litAt_inj (by omega) (by omega) a.symm)
      · rw [getD_set_ne e2]
  · rw [List.length_set]
    by_cases hr2 : r < P.length
    · rw [List.getElem?_append_left hr2] at hq
      exact h.num r k q hr hq
    · have hr3 : r = P.length := by have := (List.getElem?_eq_some_iff.1 hq).1; simp at this; omega
      subst hr3
      rw [List.getElem?_append_right (Nat.le_refl _)] at hq
      simp at hq
      obtain ⟨a, b⟩ := hq
      subst a; subst b
      exact ⟨hm, (h.ch i p hp).1⟩
/-- is it noted in this clause already? -/
theorem Pls.seen {X : List (List Int)} {n : Nat} {F : List Nat} {P : List (Nat × Nat)} (h : Pls X n F P) {m i p : Nat} {l : Int} (hm : m < X.length) (hgt : ∀ k, m < k → X.getD k [] = []) (hf : fmd l = true) (hi : idx l = i) (hp : F[i]? = some p) :
    (l ∈ X.getD m [] ↔ ∃ q, 0 < p ∧ P[p]? = some (m, q)) := by
  obtain ⟨h1, ks, h2, h3, h4⟩ := h.ch i p hp
  have hlit : litAt (i : Int) = l := by rw [← hi, litAt_idx hf]
  rw [← hlit, ← h4 m]
  constructor
  · intro hk
    have hp0 : 0 < p := Nat.pos_of_ne_zero fun e => by subst e; rw [h2.zero] at hk; simp at hk
    obtain ⟨k, q, r, g1, g2, g3, g4⟩ := h2.inv hp0
    subst g3
    have e : k = m := by
      rcases List.mem_cons.1 hk with a | a
      · exact a.symm
      · have hgk : k > m := (List.pairwise_cons.1 h3).1 m a
        have := (h4 k).1 (by simp)
        rw [hgt k hgk] at this
        simp at this
    subst e
    exact ⟨q, hp0, g1⟩
  · rintro ⟨q, hp0, hq⟩
    obtain ⟨k, q', r, g1, g2, g3, g4⟩ := h2.inv hp0
    rw [hq] at g1
    injection g1 with g1
    injection g1 with e1 e2
    subst g3; subst e1
    simp

/-- what waits is what is to be looked at -/
structure Inv (css : List (List Int)) (L : List Int) (Q : Nat → Bool) : Prop where
  sub : ∀ k, Q k = true → k < css.length ∧ cnt L (css.getD k []) ≤ 1
  all : ∀ k, k < css.length → cnt L (css.getD k []) ≤ 1 → Q k = true ∨ ∃ m ∈ css.getD k [], m ∈ L
theorem Inv.none {css : List (List Int)} {L : List Int} {Q : Nat → Bool} (h : Inv css L Q) {k : Nat} (hk : k < css.length) (hq : Q k = false) : kd L (css.getD k []) = none := by
  by_cases hc : cnt L (css.getD k []) ≤ 1
  · rcases h.all k hk hc with a | ⟨m, a, b⟩
    · rw [hq] at a; cases a
    · exact kd_true a b
  · obtain ⟨m, h1, m', h2, h3, h4, h5⟩ := cnt_two (by omega : 2 ≤ cnt L (css.getD k []))
    exact kd_two h1 h2 h3 h4 h5
theorem Inv.calm {css : List (List Int)} {L : List Int} {Q : Nat → Bool} (h : Inv css L Q) (hq : ∀ k, Q k = false) : Calm css L := fun k hk => h.none hk (hq k)
theorem least_no {Q : Nat → Bool} {k : Nat} (hl : ∀ j, Q j = true → k ≤ j) {j : Nat} (hj : j < k) : Q j = false := by
  cases h : Q j
  · rfl
  · have := hl j h; omega
theorem Inv.fls {css : List (List Int)} {L : List Int} {Q : Nat → Bool} (h : Inv css L Q) {k : Nat} (hk : Q k = true) (hl : ∀ j, Q j = true → k ≤ j) (hn : ∀ m ∈ css.getD k [], m ∉ L) (hf : ∀ m ∈ css.getD k [], -m ∈ L) : At css L k 0 :=
  ⟨(h.sub k hk).1, kd_false hf hn, fun j hj => h.none (Nat.lt_trans hj (h.sub k hk).1) (least_no hl hj)⟩
theorem Inv.unit {css : List (List Int)} {L : List Int} {Q : Nat → Bool} (h : Inv css L Q) {k : Nat} (hk : Q k = true) (hl : ∀ j, Q j = true → k ≤ j) (hn : ∀ m ∈ css.getD k [], m ∉ L) {l : Int} (h1 : l ∈ css.getD k []) (h2 : -l ∉ L) : At css L k l :=
  ⟨(h.sub k hk).1, kd_unit h1 h2 (cnt_one (h.sub k hk).2 h1 h2) hn, fun j hj => h.none (Nat.lt_trans hj (h.sub k hk).1) (least_no hl hj)⟩
theorem qdel_at {Q : Nat → Bool} {n k : Nat} : qdel Q n k = true ↔ Q k = true ∧ k ≠ n := by simp [qdel]
theorem Inv.skip {css : List (List Int)} {L : List Int} {Q : Nat → Bool} (h : Inv css L Q) {k : Nat} (ht : ∃ m ∈ css.getD k [], m ∈ L) : Inv css L (qdel Q k) := by
  refine ⟨fun j hj => h.sub j (qdel_at.1 hj).1, fun j hj hc => ?_⟩
  by_cases e : j = k
  · subst e; exact .inr ht
  · rcases h.all j hj hc with a | a
    · exact .inl (qdel_at.2 ⟨a, e⟩)
    · exact .inr a
/-- what is put: the clauses that have one literal left now -/
def newQ (css : List (List Int)) (L : List Int) (l : Int) (Q Q' : Nat → Bool) : Prop := ∀ k, Q' k = true ↔ Q k = true ∨ (k < css.length ∧ -l ∈ css.getD k [] ∧ l ∉ L ∧ cnt (L ++ [l]) (css.getD k []) = 1)
theorem cnt_had {L c : List Int} {l : Int} (hl : l ∈ L) : cnt (L ++ [l]) c = cnt L c := cnt_congr (fun _ => Iff.rfl) fun x _ => by
  rw [List.mem_append, List.mem_singleton]
  exact ⟨fun h => h.elim id (fun e => e ▸ hl), .inl⟩
theorem cnt_down {L c : List Int} {l : Int} : cnt (L ++ [l]) c ≤ cnt L c := by
  by_cases hl : l ∈ L
  · rw [cnt_had hl]; exact Nat.le_refl _
  · rw [cnt_put hl]; omega
theorem Inv.put {css : List (List Int)} {L : List Int} {Q Q' : Nat → Bool} {l : Int} (h : Inv css L Q) (hn : newQ css L l Q Q') : Inv css (L ++ [l]) Q' := by
  refine ⟨fun k hk => ?_, fun k hk hc => ?_⟩
  · rcases (hn k).1 hk with a | ⟨a, _, _, b⟩
    · exact ⟨(h.sub k a).1, Nat.le_trans cnt_down (h.sub k a).2⟩
    · exact ⟨a, by omega⟩
  · by_cases hc2 : cnt L (css.getD k []) ≤ 1
    · rcases h.all k hk hc2 with a | ⟨m, a, b⟩
      · exact .inl ((hn k).2 (.inl a))
      · exact .inr ⟨m, a, List.mem_append.2 (.inl b)⟩
    · have hl : l ∉ L := fun hl => by rw [cnt_had hl] at hc; exact hc2 hc
      have e := cnt_put (c := css.getD k []) hl
      by_cases hm : -l ∈ css.getD k []
      · rw [if_pos hm] at e
        exact .inl ((hn k).2 (.inr ⟨hk, hm, hl, by omega⟩))
      · rw [if_neg hm] at e; omega
/-- a unit clause is taken, and its literal is put -/
theorem Inv.took {css : List (List Int)} {L : List Int} {Q Q' : Nat → Bool} {l : Int} {k : Nat} (h : Inv css L Q) (hl : l ∈ css.getD k []) (hn : newQ css L l (qdel Q k) Q') : Inv css (L ++ [l]) Q' := by
  refine ⟨fun j hk => ?_, fun j hk hc => ?_⟩
  · rcases (hn j).1 hk with a | ⟨a, _, _, b⟩
    · have a := (qdel_at.1 a).1
      exact ⟨(h.sub j a).1, Nat.le_trans cnt_down (h.sub j a).2⟩
    · exact ⟨a, by omega⟩
  · by_cases e : j = k
    · subst e; exact .inr ⟨l, hl, by simp⟩
    · by_cases hc2 : cnt L (css.getD j []) ≤ 1
      · rcases h.all j hk hc2 with a | ⟨m, a, b⟩
        · exact .inl ((hn j).2 (.inl (qdel_at.2 ⟨a, e⟩)))
        · exact .inr ⟨m, a, List.mem_append.2 (.inl b)⟩
      · have hl : l ∉ L := fun hl => by rw [cnt_had hl] at hc; exact hc2 hc
        have e := cnt_put (c := css.getD j []) hl
        by_cases hm : -l ∈ css.getD j []
        · rw [if_pos hm] at e
          exact .inl ((hn j).2 (.inr ⟨hk, hm, hl, by omega⟩))
        · rw [if_neg hm] at e; omega
end Go.Proofs.YtgaojmcmpdjfmaaDoor
