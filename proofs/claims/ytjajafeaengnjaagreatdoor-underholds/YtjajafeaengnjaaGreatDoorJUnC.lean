/-
  joined: UnC OnP FwP FwQ FwR FwS
-/
import Derived.Test.YtjajafeaengnjaaGreatDoorJPlain
import Derived.Test.YtjajafeaengnjaaGreatDoorUnB
set_option linter.unusedSimpArgs false
set_option linter.unusedVariables false
namespace Go.Proofs.YtjajafeaengnjaaGreatDoor

/-- each once -/
def dd : List Int → List Int
  | [] => []
  | x :: r => if x ∈ r then dd r else x :: dd r
theorem mem_dd : ∀ {c : List Int} {x : Int}, x ∈ dd c ↔ x ∈ c
  | [], x => by simp [dd]
  | y :: r, x => by
    unfold dd
    split
    · rename_i h
      rw [mem_dd, List.mem_cons]
      constructor
      · exact fun h => .inr h
      · rintro (e | e)
        · subst e; exact h
        · exact e
    · rw [List.mem_cons, mem_dd, List.mem_cons]
theorem dd_nodup : ∀ c : List Int, (dd c).Nodup
  | [] => List.nodup_nil
  | y :: r => by
    unfold dd
    split
    · exact dd_nodup r
    · rename_i h
      exact List.nodup_cons.2 ⟨fun h2 => h (mem_dd.1 h2), dd_nodup r⟩
theorem nodup_len6 {a b : List Int} (ha : a.Nodup) (hb : b.Nodup) (h : ∀ x, x ∈ a ↔ x ∈ b) : a.length = b.length := ((List.perm_ext_iff_of_nodup ha hb).2 h).length_eq
/-- how many literals of a clause, each once, aren't false -/
def opl (L c : List Int) : List Int := (dd c).filter (fun l => decide (-l ∉ L))
def cnt (L c : List Int) : Nat := (opl L c).length
theorem mem_opl {L c : List Int} {x : Int} : x ∈ opl L c ↔ x ∈ c ∧ -x ∉ L := by
  unfold opl; rw [List.mem_filter, mem_dd, decide_eq_true_eq]
theorem opl_nodup (L c : List Int) : (opl L c).Nodup := (dd_nodup c).filter _
theorem cnt_congr {L L' c c' : List Int} (hc : ∀ x, x ∈ c ↔ x ∈ c') (hL : ∀ x ∈ c, (-x ∈ L ↔ -x ∈ L')) : cnt L c = cnt L' c' :=
  nodup_len6 (opl_nodup _ _) (opl_nodup _ _) fun x => by
    rw [mem_opl, mem_opl]
    constructor
    · rintro ⟨a, b⟩; exact ⟨(hc x).1 a, fun h => b ((hL x a).2 h)⟩
    · rintro ⟨a, b⟩; exact ⟨(hc x).2 a, fun h => b ((hL x ((hc x).2 a)).1 h)⟩
theorem dd_le : ∀ c : List Int, (dd c).length ≤ c.length
  | [] => Nat.le_refl _
  | y :: r => by
    have := dd_le r
    unfold dd
    split
    · simp; omega
    · simp; omega
theorem cnt_le (L c : List Int) : cnt L c ≤ c.length := Nat.le_trans (List.length_filter_le _ _) (dd_le c)
theorem cnt_nil (L : List Int) : cnt L [] = 0 := rfl
theorem cnt_zero {L c : List Int} : cnt L c = 0 ↔ ∀ m ∈ c, -m ∈ L := by
  unfold cnt
  rw [List.length_eq_zero_iff, List.eq_nil_iff_forall_not_mem]
  constructor
  · intro h m hm
    exact Classical.byContradiction fun hn => h m (mem_opl.2 ⟨hm, hn⟩)
  · intro h x hx
    exact (mem_opl.1 hx).2 (h x (mem_opl.1 hx).1)
theorem cnt_one {L c : List Int} {l : Int} (h : cnt L c ≤ 1) (hl : l ∈ c) (h1 : -l ∉ L) : ∀ m ∈ c, m ≠ l → -m ∈ L := by
  intro m hm hne
  refine Classical.byContradiction fun hn => ?_
  have a1 := mem_opl.2 ⟨hl, h1⟩
  have a2 := mem_opl.2 ⟨hm, hn⟩
  have hlen : (opl L c).length ≤ 1 := h
  match hx : opl L c, a1, a2, hlen with
  | [y], a1, a2, _ =>
    have e1 : l = y := by simpa using a1
    have e2 : m = y := by simpa using a2
    exact hne (e2.trans e1.symm)
  | y :: z :: r, _, _, h3 => simp at h3
theorem cnt_two {L c : List Int} (h : 2 ≤ cnt L c) : ∃ m ∈ c, ∃ m' ∈ c, m ≠ m' ∧ -m ∉ L ∧ -m' ∉ L := by
  have hlen : 2 ≤ (opl L c).length := h
  have hnd := opl_nodup L c
  match hx : opl L c, hlen, hnd with
  | y :: z :: r, _, hnd =>
    have a1 : y ∈ opl L c := by rw [hx]; simp
    have a2 : z ∈ opl L c := by rw [hx]; simp
    rw [mem_opl] at a1 a2
    have : y ≠ z := by
      rw [List.nodup_cons] at hnd
      intro e; exact hnd.1 (by rw [e]; simp)
    exact ⟨y, a1.1, z, a2.1, this, a1.2, a2.2⟩
/-- a literal more in L -/
theorem cnt_put {L c : List Int} {l : Int} (hl : l ∉ L) : cnt (L ++ [l]) c = cnt L c - (if -l ∈ c then 1 else 0) := by
  have e : opl (L ++ [l]) c = (opl L c).filter (fun x => x != -l) := by
    unfold opl
    rw [List.filter_filter]
    apply List.filter_congr
    intro x _
    rw [Bool.eq_iff_iff]
    simp only [decide_eq_true_eq, List.mem_append, List.mem_singleton, Bool.and_eq_true, bne_iff_ne, ne_eq]
    constructor
    · intro h; exact ⟨fun e => h (.inr (by omega)), fun h2 => h (.inl h2)⟩
    · rintro ⟨h1, h2⟩ (h3 | h3)
      · exact h2 h3
      · exact h1 (by omega)
  unfold cnt
  rw [e, ← List.Nodup.erase_eq_filter (opl_nodup L c)]
  by_cases h : -l ∈ c
  · rw [if_pos h, List.length_erase_of_mem (mem_opl.2 ⟨h, by simpa using hl⟩)]
  · rw [if_neg h, List.erase_of_not_mem (fun h2 => h (mem_opl.1 h2).1)]; rfl
theorem cnt_pos {L c : List Int} {l : Int} (hl : l ∉ L) (h : -l ∈ c) : 1 ≤ cnt L c := by
  have : -l ∈ opl L c := mem_opl.2 ⟨h, by simpa using hl⟩
  exact List.length_pos_of_mem this
/-- a literal more in a clause -/
theorem cnt_more {c : List Int} {l : Int} : cnt [] (c ++ [l]) = cnt [] c + (if l ∈ c then 0 else 1) := by
  by_cases h : l ∈ c
  · rw [if_pos h]
    exact cnt_congr (fun x => by
      rw [List.mem_append, List.mem_singleton]
      exact ⟨fun h2 => h2.elim id (fun e => e ▸ h), .inl⟩) (fun x _ => Iff.rfl)
  · rw [if_neg h]
    have e2 : cnt [] c + 1 = (opl [] c ++ [l]).length := by rw [List.length_append]; rfl
    rw [e2]
    refine nodup_len6 (opl_nodup _ _) ?_ fun x => ?_
    · rw [List.nodup_append]
      refine ⟨opl_nodup _ _, by simp, fun a ha b hb => ?_⟩
      have e : b = l := by simpa using hb
      subst e
      intro e2; subst e2
      exact h (mem_opl.1 ha).1
    · rw [mem_opl, List.mem_append, List.mem_append, mem_opl]
      simp

/-- what of the literals stands in L, by Index -/
def inLs (n : Nat) (L : List Int) : List Bool := (List.range n).map (fun (i : Nat) => decide (litAt (i : Int) ∈ L))
def lefts (css : List (List Int)) (L : List Int) : List Int := css.map (fun c => (cnt L c : Int))
theorem inLs_len (n : Nat) (L : List Int) : (inLs n L).length = n := by simp [inLs]
theorem inLs_at {n : Nat} {L : List Int} {l : Int} (hf : fmd l = true) {i : Nat} (hi : idx l = i) (hn : i < n) : (inLs n L)[i]? = some (decide (l ∈ L)) := by
  unfold inLs
  rw [List.getElem?_map, List.getElem?_range hn]
  show some (decide (litAt (i : Int) ∈ L)) = _
  rw [← hi, litAt_idx hf]
theorem litAt_inj {i j : Nat} (hi : i < 2097152) (hj : j < 2097152) (h : litAt (i : Int) = litAt (j : Int)) : i = j := by
  rcases Int.emod_two_eq (i : Int) with a | a <;> rcases Int.emod_two_eq (j : Int) with b | b
  · rw [litAt_even (by omega) (by omega) a, litAt_even (by omega) (by omega) b] at h; omega
  · rw [litAt_even (by omega) (by omega) a, litAt_odd (by omega) (by omega) b] at h; omega
  · rw [litAt_odd (by omega) (by omega) a, litAt_even (by omega) (by omega) b] at h; omega
  · rw [litAt_odd (by omega) (by omega) a, litAt_odd (by omega) (by omega) b] at h; omega
theorem inLs_set {n : Nat} {L L' : List Int} {l : Int} (hN : n ≤ 2097152) (hf : fmd l = true) {i : Nat} (hi : idx l = i) (b : Bool) (hb : b = decide (l ∈ L')) (ho : ∀ x, x ≠ l → (x ∈ L' ↔ x ∈ L)) : (inLs n L).set i b = inLs n L' := by
  apply List.ext_getElem?
  intro j
  by_cases hj : j < n
  · by_cases e : i = j
    · subst e
      rw [List.getElem?_set_self (by rw [inLs_len]; exact hj), inLs_at hf hi hj, hb]
    · rw [List.getElem?_set_ne e]
      unfold inLs
      rw [List.getElem?_map, List.getElem?_map, List.getElem?_range hj]
      show some (decide (litAt (j : Int) ∈ L)) = some (decide (litAt (j : Int) ∈ L'))
      have hne : litAt (j : Int) ≠ l := by
        intro h
        rw [← litAt_idx hf, hi] at h
        have hr := idx_range hf
        exact e (litAt_inj (by omega) (by omega) h.symm)
      congr 1
      rw [Bool.eq_iff_iff, decide_eq_true_eq, decide_eq_true_eq]
      exact (ho _ hne).symm
  · rw [List.getElem?_eq_none (by rw [List.length_set, inLs_len]; omega), List.getElem?_eq_none (by rw [inLs_len]; omega)]
theorem inLs_congr {n : Nat} {L L' : List Int} (hN : n ≤ 2097152) (h : ∀ x, fmd x = true → idx x < n → (x ∈ L ↔ x ∈ L')) : inLs n L = inLs n L' := by
  unfold inLs
  apply List.map_congr_left
  intro i hi
  have hi := List.mem_range.1 hi
  have hl : fmd (litAt (i : Int)) = true ∧ idx (litAt (i : Int)) = i := by
    rcases Int.emod_two_eq (i : Int) with a | a
    · rw [litAt_even (by omega) (by omega) a]
      have hf : fmd ((i : Int) / 2 + 1) = true := fmd_true (by omega) (by omega) (by omega)
      exact ⟨hf, by rw [(there_pos hf (by omega)).1]; omega⟩
    · rw [litAt_odd (by omega) (by omega) a]
      have hf : fmd (-((i : Int) / 2 + 1)) = true := fmd_true (by omega) (by omega) (by omega)
      exact ⟨hf, by rw [(there_neg hf (by omega)).1]; omega⟩
  rw [Bool.eq_iff_iff, decide_eq_true_eq, decide_eq_true_eq]
  exact h _ hl.1 (by rw [hl.2]; omega)

/-- a chain of places -/
inductive Ch (P : List (Nat × Nat)) : Nat → List Nat → Prop
  | nil : Ch P 0 []
  | cons {p k q : Nat} {ks : List Nat} : 0 < p → P[p]? = some (k, q) → q < p → Ch P q ks → Ch P p (k :: ks)
theorem Ch.more {P : List (Nat × Nat)} {p : Nat} {ks : List Nat} (h : Ch P p ks) (x : Nat × Nat) : Ch (P ++ [x]) p ks := by
  induction h with
  | nil => exact .nil
  | cons h1 h2 h3 _ ih => exact .cons h1 (by rw [List.getElem?_append_left (List.getElem?_eq_some_iff.1 h2).1]; exact h2) h3 ih
theorem Ch.inv {P : List (Nat × Nat)} {p : Nat} {ks : List Nat} (h : Ch P p ks) (hp : 0 < p) : ∃ k q r, P[p]? = some (k, q) ∧ q < p ∧ ks = k :: r ∧ Ch P q r := by
  cases h with
  | nil => omega
  | cons h1 h2 h3 h4 => exact ⟨_, _, _, h2, h3, rfl, h4⟩
theorem Ch.zero {P : List (Nat × Nat)} {ks : List Nat} (h : Ch P 0 ks) : ks = [] := by
  cases h with
  | nil => rfl
  | cons h1 _ _ _ => omega
/-- where the literals stand -/
structure Pls (X : List (List Int)) (n : Nat) (F : List Nat) (P : List (Nat × Nat)) : Prop where
  len : F.length = n
  pos : 0 < P.length
  ch : ∀ (i p : Nat), F[i]? = some p → p < P.length ∧ ∃ ks, Ch P p ks ∧ ks.Pairwise (· > ·) ∧ ∀ k, k ∈ ks ↔ litAt (i : Int) ∈ X.getD k []
  num : ∀ (p k q : Nat), 0 < p → P[p]? = some (k, q) → k < X.length ∧ q < p
/-- one more -/
theorem getD_set_self {X : List (List Int)} {m : Nat} {c : List Int} (h : m < X.length) : (X.set m c).getD m [] = c := by
  rw [List.getD_eq_getElem?_getD, List.getElem?_set_self h]; rfl
theorem getD_set_ne {X : List (List Int)} {m k : Nat} {c : List Int} (h : m ≠ k) : (X.set m c).getD k [] = X.getD k [] := by
  rw [List.getD_eq_getElem?_getD, List.getElem?_set_ne h, List.getD_eq_getElem?_getD]
theorem Pls.same {X : List (List Int)} {n : Nat} {F : List Nat} {P : List (Nat × Nat)} (h : Pls X n F P) {m : Nat} {l : Int} (hm : m < X.length) (hl : l ∈ X.getD m []) : Pls (X.set m (X.getD m [] ++ [l])) n F P := by
  refine ⟨h.len, h.pos, fun i p hi => ?_, fun p k q hp hq => by rw [List.length_set]; exact h.num p k q hp hq⟩
  obtain ⟨h1, ks, h2, h3, h4⟩ := h.ch i p hi
  refine ⟨h1, ks, h2, h3, fun k => (h4 k).trans ?_⟩
  by_cases e : m = k
  · subst e
    rw [getD_set_self hm, List.mem_append, List.mem_singleton]
    constructor
    · exact .inl
    · rintro (a | a)
      · exact a
      · rw [a]; exact hl
  · rw [getD_set_ne e]
theorem Pls.add {X : List (List Int)} {n : Nat} {F : List Nat} {P : List (Nat × Nat)} (h : Pls X n F P) (hn : n ≤ 2097152) {m i p : Nat} {l : Int} (hm : m < X.length) (hl : l ∉ X.getD m []) (hgt : ∀ k, m < k → X.getD k [] = []) (hf : fmd l = true) (hi : idx l = i) (hp : F[i]? = some p) :
    Pls (X.set m (X.getD m [] ++ [l])) n (F.set i P.length) (P ++ [(m, p)]) := by
  have hin := (List.getElem?_eq_some_iff.1 hp).1
  refine ⟨by rw [List.length_set]; exact h.len, by simp, fun j q hj => ?_, fun r k q hr hq => ?_⟩
  · have hjn : j < n := by have := (List.getElem?_eq_some_iff.1 hj).1; rw [List.length_set, h.len] at this; exact this
    by_cases e : i = j
    · subst e
      rw [List.getElem?_set_self hin] at hj
      injection hj with hj
      subst hj
      obtain ⟨h1, ks, h2, h3, h4⟩ := h.ch i p hp
      refine ⟨by simp, m :: ks, .cons h.pos (by rw [List.getElem?_append_right (Nat.le_refl _)]; simp) h1 (h2.more _), ?_, fun k => ?_⟩
      · rw [List.pairwise_cons]
        refine ⟨fun k hk => ?_, h3⟩
        have hk2 := (h4 k).1 hk
        rw [← hi, litAt_idx hf] at hk2
        rcases Nat.lt_trichotomy k m with a | a | a
        · exact a
        · subst a; exact absurd hk2 hl
        · rw [hgt k a] at hk2; simp at hk2
      · rw [List.mem_cons, h4 k, ← hi, litAt_idx hf]
        by_cases e2 : m = k
        · subst e2
          rw [getD_set_self hm]
          simp
        · rw [getD_set_ne e2]
          constructor
          · rintro (a | a)
            · exact absurd a.symm e2
            · exact a
          · exact .inr
    · rw [List.getElem?_set_ne e] at hj
      obtain ⟨h1, ks, h2, h3, h4⟩ := h.ch j q hj
      refine ⟨by simp; omega, ks, h2.more _, h3, fun k => (h4 k).trans ?_⟩
      by_cases e2 : m = k
      · subst e2
        rw [getD_set_self hm, List.mem_append, List.mem_singleton]
        constructor
        · exact .inl
        · rintro (a | a)
          · exact a
          · exfalso
            have hin2 : i < n := by rw [← h.len]; exact hin
            rw [← litAt_idx hf, hi] at a
            exact e (litAt_inj (by omega) (by omega) a.symm)
      · rw [getD_set_ne e2]
  · rw [List.length_set]
    by_cases hr2 : r < P.length
    · rw [List.getElem?_append_left hr2] at hq
      exact h.num r k q hr hq
    · have hr3 : r = P.length := by have := (List.getElem?_eq_some_iff.1 hq).1; simp at this; omega
      subst hr3
      rw [List.getElem?_append_right (Nat.le_refl _)] at hq
      simp at hq
      obtain ⟨a, b⟩ := hq
      subst a; subst b
      exact ⟨hm, (h.ch i p hp).1⟩
/-- is it noted in this clause already? -/
theorem Pls.seen {X : List (List Int)} {n : Nat} {F : List Nat} {P : List (Nat × Nat)} (h : Pls X n F P) {m i p : Nat} {l : Int} (hm : m < X.length) (hgt : ∀ k, m < k → X.getD k [] = []) (hf : fmd l = true) (hi : idx l = i) (hp : F[i]? = some p) :
    (l ∈ X.getD m [] ↔ ∃ q, 0 < p ∧ P[p]? = some (m, q)) := by
  obtain ⟨h1, ks, h2, h3, h4⟩ := h.ch i p hp
  have hlit : litAt (i : Int) = l := by rw [← hi, litAt_idx hf]
  rw [← hlit, ← h4 m]
  constructor
  · intro hk
    have hp0 : 0 < p := Nat.pos_of_ne_zero fun e => by subst e; rw [h2.zero] at hk; simp at hk
    obtain ⟨k, q, r, g1, g2, g3, g4⟩ := h2.inv hp0
    subst g3
    have e : k = m := by
      rcases List.mem_cons.1 hk with a | a
      · exact a.symm
      · have hgk : k > m := (List.pairwise_cons.1 h3).1 m a
        have := (h4 k).1 (by simp)
        rw [hgt k hgk] at this
        simp at this
    subst e
    exact ⟨q, hp0, g1⟩
  · rintro ⟨q, hp0, hq⟩
    obtain ⟨k, q', r, g1, g2, g3, g4⟩ := h2.inv hp0
    rw [hq] at g1
    injection g1 with g1
    injection g1 with e1 e2
    subst g3; subst e1
    simp

/-- what waits is what is to be looked at -/
structure Inv (css : List (List Int)) (L : List Int) (Q : Nat → Bool) : Prop where
  sub : ∀ k, Q k = true → k < css.length ∧ cnt L (css.getD k []) ≤ 1
  all : ∀ k, k < css.length → cnt L (css.getD k []) ≤ 1 → Q k = true ∨ ∃ m ∈ css.getD k [], m ∈ L
theorem Inv.none {css : List (List Int)} {L : List Int} {Q : Nat → Bool} (h : Inv css L Q) {k : Nat} (hk : k < css.length) (hq : Q k = false) : kd L (css.getD k []) = none := by
  by_cases hc : cnt L (css.getD k []) ≤ 1
  · rcases h.all k hk hc with a | ⟨m, a, b⟩
    · rw [hq] at a; cases a
    · exact kd_true a b
  · obtain ⟨m, h1, m', h2, h3, h4, h5⟩ := cnt_two (by omega : 2 ≤ cnt L (css.getD k []))
    exact kd_two h1 h2 h3 h4 h5
theorem Inv.calm {css : List (List Int)} {L : List Int} {Q : Nat → Bool} (h : Inv css L Q) (hq : ∀ k, Q k = false) : Calm css L := fun k hk => h.none hk (hq k)
theorem least_no {Q : Nat → Bool} {k : Nat} (hl : ∀ j, Q j = true → k ≤ j) {j : Nat} (hj : j < k) : Q j = false := by
  cases h : Q j
  · rfl
  · have := hl j h; omega
theorem Inv.fls {css : List (List Int)} {L : List Int} {Q : Nat → Bool} (h : Inv css L Q) {k : Nat} (hk : Q k = true) (hl : ∀ j, Q j = true → k ≤ j) (hn : ∀ m ∈ css.getD k [], m ∉ L) (hf : ∀ m ∈ css.getD k [], -m ∈ L) : At css L k 0 :=
  ⟨(h.sub k hk).1, kd_false hf hn, fun j hj => h.none (Nat.lt_trans hj (h.sub k hk).1) (least_no hl hj)⟩
theorem Inv.unit {css : List (List Int)} {L : List Int} {Q : Nat → Bool} (h : Inv css L Q) {k : Nat} (hk : Q k = true) (hl : ∀ j, Q j = true → k ≤ j) (hn : ∀ m ∈ css.getD k [], m ∉ L) {l : Int} (h1 : l ∈ css.getD k []) (h2 : -l ∉ L) : At css L k l :=
  ⟨(h.sub k hk).1, kd_unit h1 h2 (cnt_one (h.sub k hk).2 h1 h2) hn, fun j hj => h.none (Nat.lt_trans hj (h.sub k hk).1) (least_no hl hj)⟩
theorem qdel_at {Q : Nat → Bool} {n k : Nat} : qdel Q n k = true ↔ Q k = true ∧ k ≠ n := by simp [qdel]
theorem Inv.skip {css : List (List Int)} {L : List Int} {Q : Nat → Bool} (h : Inv css L Q) {k : Nat} (ht : ∃ m ∈ css.getD k [], m ∈ L) : Inv css L (qdel Q k) := by
  refine ⟨fun j hj => h.sub j (qdel_at.1 hj).1, fun j hj hc => ?_⟩
  by_cases e : j = k
  · subst e; exact .inr ht
  · rcases h.all j hj hc with a | a
    · exact .inl (qdel_at.2 ⟨a, e⟩)
    · exact .inr a
/-- what is put: the clauses that have one literal left now -/
def newQ (css : List (List Int)) (L : List Int) (l : Int) (Q Q' : Nat → Bool) : Prop := ∀ k, Q' k = true ↔ Q k = true ∨ (k < css.length ∧ -l ∈ css.getD k [] ∧ l ∉ L ∧ cnt (L ++ [l]) (css.getD k []) = 1)
theorem cnt_had {L c : List Int} {l : Int} (hl : l ∈ L) : cnt (L ++ [l]) c = cnt L c := cnt_congr (fun _ => Iff.rfl) fun x _ => by
  rw [List.mem_append, List.mem_singleton]
  exact ⟨fun h => h.elim id (fun e => e ▸ hl), .inl⟩
theorem cnt_down {L c : List Int} {l : Int} : cnt (L ++ [l]) c ≤ cnt L c := by
  by_cases hl : l ∈ L
  · rw [cnt_had hl]; exact Nat.le_refl _
  · rw [cnt_put hl]; omega
theorem Inv.put {css : List (List Int)} {L : List Int} {Q Q' : Nat → Bool} {l : Int} (h : Inv css L Q) (hn : newQ css L l Q Q') : Inv css (L ++ [l]) Q' := by
  refine ⟨fun k hk => ?_, fun k hk hc => ?_⟩
  · rcases (hn k).1 hk with a | ⟨a, _, _, b⟩
    · exact ⟨(h.sub k a).1, Nat.le_trans cnt_down (h.sub k a).2⟩
    · exact ⟨a, by omega⟩
  · by_cases hc2 : cnt L (css.getD k []) ≤ 1
    · rcases h.all k hk hc2 with a | ⟨m, a, b⟩
      · exact .inl ((hn k).2 (.inl a))
      · exact .inr ⟨m, a, List.mem_append.2 (.inl b)⟩
    · have hl : l ∉ L := fun hl => by rw [cnt_had hl] at hc; exact hc2 hc
      have e := cnt_put (c := css.getD k []) hl
      by_cases hm : -l ∈ css.getD k []
      · rw [if_pos hm] at e
        exact .inl ((hn k).2 (.inr ⟨hk, hm, hl, by omega⟩))
      · rw [if_neg hm] at e; omega
/-- a unit clause is taken, and its literal is put -/
theorem Inv.took {css : List (List Int)} {L : List Int} {Q Q' : Nat → Bool} {l : Int} {k : Nat} (h : Inv css L Q) (hl : l ∈ css.getD k []) (hn : newQ css L l (qdel Q k) Q') : Inv css (L ++ [l]) Q' := by
  refine ⟨fun j hk => ?_, fun j hk hc => ?_⟩
  · rcases (hn j).1 hk with a | ⟨a, _, _, b⟩
    · have a := (qdel_at.1 a).1
      exact ⟨(h.sub j a).1, Nat.le_trans cnt_down (h.sub j a).2⟩
    · exact ⟨a, by omega⟩
  · by_cases e : j = k
    · subst e; exact .inr ⟨l, hl, by simp⟩
    · by_cases hc2 : cnt L (css.getD j []) ≤ 1
      · rcases h.all j hk hc2 with a | ⟨m, a, b⟩
        · exact .inl ((hn j).2 (.inl (qdel_at.2 ⟨a, e⟩)))
        · exact .inr ⟨m, a, List.mem_append.2 (.inl b)⟩
      · have hl : l ∉ L := fun hl => by rw [cnt_had hl] at hc; exact hc2 hc
        have e := cnt_put (c := css.getD j []) hl
        by_cases hm : -l ∈ css.getD j []
        · rw [if_pos hm] at e
          exact .inl ((hn j).2 (.inr ⟨hk, hm, hl, by omega⟩))
        · rw [if_neg hm] at e; omega
end Go.Proofs.YtjajafeaengnjaaGreatDoor
set_option linter.unusedSimpArgs false
set_option linter.unusedVariables false
namespace Go.Proofs.YtjajafeaengnjaaGreatDoor

/-- what of a clause is open under K: nothing of one that is true -/
def red (K c : List Int) : List Int := if c.any (fun l => decide (l ∈ K)) then [] else c.filter (fun l => decide (-l ∉ K))
def reds (K : List Int) (css : List (List Int)) : List (List Int) := css.map (red K)
theorem red_true {K c : List Int} {m : Int} (h : m ∈ c) (hK : m ∈ K) : red K c = [] := by
  unfold red; rw [if_pos]; exact List.any_eq_true.2 ⟨m, h, decide_eq_true hK⟩
theorem red_else {K c : List Int} (h : ∀ m ∈ c, m ∉ K) : red K c = c.filter (fun l => decide (-l ∉ K)) := by
  unfold red; rw [if_neg]
  intro he
  obtain ⟨m, hm, hd⟩ := List.any_eq_true.1 he
  exact h m hm (of_decide_eq_true hd)
theorem mem_red {K c : List Int} {x : Int} : x ∈ red K c ↔ (∀ m ∈ c, m ∉ K) ∧ x ∈ c ∧ -x ∉ K := by
  by_cases h : ∀ m ∈ c, m ∉ K
  · rw [red_else h, List.mem_filter, decide_eq_true_eq]
    exact ⟨fun a => ⟨h, a⟩, fun a => a.2⟩
  · obtain ⟨m, hm, hK⟩ : ∃ m, m ∈ c ∧ m ∈ K := Classical.byContradiction fun hn => h fun m hm hK => hn ⟨m, hm, hK⟩
    rw [red_true hm hK]
    exact ⟨fun a => by simp at a, fun a => absurd a.1 h⟩
theorem reds_len (K : List Int) (css : List (List Int)) : (reds K css).length = css.length := by simp [reds]
theorem reds_at (K : List Int) (css : List (List Int)) (k : Nat) (h : k < css.length) : (reds K css).getD k [] = red K (css.getD k []) := by
  rw [List.getD_eq_getElem?_getD, List.getD_eq_getElem?_getD]
  unfold reds
  rw [List.getElem?_map, List.getElem?_eq_getElem h]
  rfl
theorem reds_out {K : List Int} {css : List (List Int)} {k : Nat} {x : Int} (h : x ∈ (reds K css).getD k []) : k < css.length := by
  refine Classical.byContradiction fun hn => ?_
  rw [List.getD_eq_getElem?_getD, List.getElem?_eq_none (by rw [reds_len]; omega)] at h
  simp at h
theorem red_cnt {K c M : List Int} (h : ∀ m ∈ c, m ∉ K) : cnt M (red K c) = cnt (K ++ M) c :=
  nodup_len6 (opl_nodup _ _) (opl_nodup _ _) fun x => by
    rw [mem_opl, mem_opl, mem_red, List.mem_append]
    constructor
    · rintro ⟨⟨a, b, c⟩, d⟩; exact ⟨b, fun e => e.elim c d⟩
    · rintro ⟨a, b⟩; exact ⟨⟨h, a, fun e => b (.inl e)⟩, fun e => b (.inr e)⟩
/-- the closing K led further to M; R: the clauses that are ready; t of them have been looked at -/
structure On (css : List (List Int)) (K M : List Int) (R : List Nat) (t : Nat) : Prop where
  con : Con (K ++ M)
  nd : R.Nodup
  sub : ∀ k ∈ R, k < css.length ∧ (∀ m ∈ css.getD k [], m ∉ K) ∧ cnt (K ++ M) (css.getD k []) ≤ 1
  all : ∀ k, k < css.length → (∀ m ∈ css.getD k [], m ∉ K) → cnt (K ++ M) (css.getD k []) ≤ 1 → k ∈ R
  done : ∀ i, i < t → i < R.length → ∃ m ∈ css.getD (R.getD i 0) [], m ∈ K ++ M
theorem On.start {css : List (List Int)} {K : List Int} (hc : Con K) (h : Calm css K) : On css K [] [] 0 := by
  refine ⟨by simpa using hc, List.nodup_nil, by simp, fun k hk hn hc => ?_, fun i hi => by omega⟩
  exfalso
  rw [List.append_nil] at hc
  have hz := h k hk
  rcases kd_cases K (css.getD k []) with ⟨e, (⟨m, h1, h2⟩ | ⟨m, h1, m', h2, h3, h4, h5⟩)⟩ | ⟨e, h1, h2⟩ | ⟨l, e, h1, h2, h3, h4⟩
  · exact hn m h1 h2
  · exact h5 (cnt_one hc h1 h4 m' h2 (Ne.symm h3))
  · rw [hz] at e; cases e
  · rw [hz] at e; cases e
/-- the clauses that become ready when l is put -/
def newR (css : List (List Int)) (K M : List Int) (l : Int) (S : List Nat) : Prop := S.Nodup ∧ ∀ k, k ∈ S ↔ k < css.length ∧ (∀ m ∈ css.getD k [], m ∉ K) ∧ -l ∈ css.getD k [] ∧ cnt (K ++ (M ++ [l])) (css.getD k []) = 1
theorem On.put {css : List (List Int)} {K M : List Int} {R S : List Nat} {t : Nat} {l : Int} (h : On css K M R t) (h0 : l ≠ 0) (h1 : l ∉ K ++ M) (h2 : -l ∉ K ++ M) (ht : t ≤ R.length) (hS : newR css K M l S) : On css K (M ++ [l]) (R ++ S) t := by
  have hcd : ∀ c, cnt (K ++ (M ++ [l])) c = cnt (K ++ M) c - (if -l ∈ c then 1 else 0) := fun c => by rw [← List.append_assoc, cnt_put h1]
  have hp : ∀ c, -l ∈ c → 1 ≤ cnt (K ++ M) c := fun c hc => cnt_pos h1 hc
  refine ⟨by rw [← List.append_assoc]; exact h.con.snoc h0 h2, ?_, fun k hk => ?_, fun k hk hn hc => ?_, fun i hi hiR => ?_⟩
  · rw [List.nodup_append]
    refine ⟨h.nd, hS.1, fun a ha b hb e => ?_⟩
    subst e
    obtain ⟨_, _, a3, a4⟩ := (hS.2 a).1 hb
    have := (h.sub a ha).2.2
    have h5 := hp _ a3
    rw [hcd, if_pos a3] at a4
    omega
  · rcases List.mem_append.1 hk with a | a
    · obtain ⟨b1, b2, b3⟩ := h.sub k a
      exact ⟨b1, b2, by rw [hcd]; omega⟩
    · obtain ⟨b1, b2, b3, b4⟩ := (hS.2 k).1 a
      exact ⟨b1, b2, by omega⟩
  · by_cases hl : -l ∈ css.getD k []
    · by_cases hone : cnt (K ++ (M ++ [l])) (css.getD k []) = 1
      · exact List.mem_append.2 (.inr ((hS.2 k).2 ⟨hk, hn, hl, hone⟩))
      · refine List.mem_append.2 (.inl (h.all k hk hn ?_))
        have h5 := hp _ hl
        have h6 := hcd (css.getD k [])
        rw [if_pos hl] at h6
        omega
    · refine List.mem_append.2 (.inl (h.all k hk hn ?_))
      have h6 := hcd (css.getD k [])
      rw [if_neg hl] at h6
      omega
  · obtain ⟨m, a, b⟩ := h.done i hi (by omega)
    refine ⟨m, ?_, by rw [← List.append_assoc]; exact List.mem_append.2 (.inl b)⟩
    have e : (R ++ S).getD i 0 = R.getD i 0 := by rw [List.getD_eq_getElem?_getD, List.getElem?_append_left (by omega), ← List.getD_eq_getElem?_getD]
    rw [e]
    exact a
theorem On.len {css : List (List Int)} {K M : List Int} {R : List Nat} {t : Nat} (h : On css K M R t) : R.length ≤ css.length := by
  have e : R.length = ((List.range css.length).filter fun k => decide (k ∈ R)).length := ((List.perm_ext_iff_of_nodup h.nd (List.nodup_range.filter _)).2 fun x => by
    rw [List.mem_filter, List.mem_range, decide_eq_true_eq]
    exact ⟨fun a => ⟨(h.sub x a).1, a⟩, fun a => a.2⟩).length_eq
  rw [e]
  exact Nat.le_trans (List.length_filter_le _ _) (by simp)
/-- a clause that was ready has been looked at -/
theorem On.look {css : List (List Int)} {K M : List Int} {R : List Nat} {t : Nat} (h : On css K M R t) (hm : ∃ m ∈ css.getD (R.getD t 0) [], m ∈ K ++ M) : On css K M R (t + 1) :=
  ⟨h.con, h.nd, h.sub, h.all, fun i hi hiR => by
    by_cases e : i = t
    · subst e; exact hm
    · exact h.done i (by omega) hiR⟩
theorem On.calm {css : List (List Int)} {K M : List Int} {R : List Nat} {t : Nat} (h : On css K M R t) (ht : R.length ≤ t) : Calm css (K ++ M) := by
  intro k hk
  by_cases hn : ∀ m ∈ css.getD k [], m ∉ K
  · by_cases hc : cnt (K ++ M) (css.getD k []) ≤ 1
    · obtain ⟨i, hi, e⟩ := List.getElem_of_mem (h.all k hk hn hc)
      obtain ⟨m, a, b⟩ := h.done i (by omega) hi
      have e2 : R.getD i 0 = k := by rw [List.getD_eq_getElem?_getD, List.getElem?_eq_getElem hi]; exact e
      rw [e2] at a
      exact kd_true a b
    · obtain ⟨m, h1, m', h2, h3, h4, h5⟩ := cnt_two (by omega : 2 ≤ cnt (K ++ M) (css.getD k []))
      exact kd_two h1 h2 h3 h4 h5
  · obtain ⟨m, hm, hK⟩ : ∃ m, m ∈ css.getD k [] ∧ m ∈ K := Classical.byContradiction fun h2 => hn fun m hm hK => h2 ⟨m, hm, hK⟩
    exact kd_true hm (List.mem_append.2 (.inl hK))
/-- led to its end: no clash -/
theorem On.fin {css : List (List Int)} {K M G : List Int} {R : List Nat} {t : Nat} (h : On css K M R t) (ht : R.length ≤ t) (hG : ∀ x ∈ G, x ∈ K ++ M) : ¬ Cla css (K ++ G) := by
  intro hc
  refine (calm_der h.con (h.calm ht)).2 (hc.trans fun x hx => .fact ?_)
  rcases List.mem_append.1 hx with a | a
  · exact List.mem_append.2 (.inl a)
  · exact hG x a
/-- all that is put follows -/
def Led (css : List (List Int)) (K G M : List Int) : Prop := ∀ x ∈ K ++ M, Der css (K ++ G) x
theorem Led.nil (css : List (List Int)) (K G : List Int) : Led css K G [] := fun x hx => .fact (List.mem_append.2 (.inl (by simpa using hx)))
theorem Led.fact {css : List (List Int)} {K G M : List Int} {l : Int} (h : Led css K G M) (hl : l ∈ G) : Led css K G (M ++ [l]) := fun x hx => by
  rw [← List.append_assoc] at hx
  rcases List.mem_append.1 hx with a | a
  · exact h x a
  · have e : x = l := by simpa using a
    subst e; exact .fact (List.mem_append.2 (.inr hl))
theorem Led.unit {css : List (List Int)} {K G M : List Int} {l : Int} {k : Nat} (h : Led css K G M) (hk : k < css.length) (hl : l ∈ css.getD k []) (hu : ∀ m ∈ css.getD k [], m ≠ l → -m ∈ K ++ M) : Led css K G (M ++ [l]) := fun x hx => by
  rw [← List.append_assoc] at hx
  rcases List.mem_append.1 hx with a | a
  · exact h x a
  · have e : x = l := by simpa using a
    subst e; exact .unit (getD_in hk) hl fun m hm hne => h _ (hu m hm hne)
theorem Led.clash {css : List (List Int)} {K G M : List Int} {l : Int} (h : Led css K G M) (h1 : l ∈ G) (h2 : -l ∈ K ++ M) : Cla css (K ++ G) := .inl ⟨l, .fact (List.mem_append.2 (.inr h1)), h _ h2⟩
theorem Led.fls {css : List (List Int)} {K G M : List Int} {k : Nat} (h : Led css K G M) (hk : k < css.length) (hf : ∀ m ∈ css.getD k [], -m ∈ K ++ M) : Cla css (K ++ G) := .inr ⟨_, getD_in hk, fun m hm => h _ (hf m hm)⟩

open Classical in
/-- is it a clash? -/
noncomputable def claB (css : List (List Int)) (L : List Int) : Bool := decide (Cla css L)
theorem claB_true {css : List (List Int)} {L : List Int} : claB css L = true ↔ Cla css L := by unfold claB; exact @decide_eq_true_iff _ (Classical.propDecidable _)
theorem claB_of {css : List (List Int)} {L : List Int} (h : Cla css L) : claB css L = true := claB_true.2 h
theorem claB_not {css : List (List Int)} {L : List Int} (h : ¬ Cla css L) : claB css L = false := by
  cases e : claB css L
  · rfl
  · exact absurd (claB_true.1 e) h
theorem claB_congr {css css' : List (List Int)} {L L' : List Int} (h : Cla css L ↔ Cla css' L') : claB css L = claB css' L' := by
  cases e : claB css' L'
  · exact claB_not fun h2 => by rw [claB_of (h.1 h2)] at e; cases e
  · exact claB_of (h.2 (claB_true.1 e))
/-- a formula's closure in place of the facts -/
theorem cla_clos {css : List (List Int)} {L K G : List Int} (h : ∀ x, x ∈ K ↔ Der css L x) : Cla css (K ++ G) ↔ Cla css (L ++ G) := by
  constructor
  · refine fun hc => hc.trans fun x hx => ?_
    rcases List.mem_append.1 hx with a | a
    · exact ((h x).1 a).trans fun y hy => .fact (List.mem_append.2 (.inl hy))
    · exact .fact (List.mem_append.2 (.inr a))
  · refine fun hc => hc.trans fun x hx => .fact ?_
    rcases List.mem_append.1 hx with a | a
    · exact List.mem_append.2 (.inl ((h x).2 (.fact a)))
    · exact List.mem_append.2 (.inr a)
theorem cla_set {css : List (List Int)} {L L' : List Int} (h : ∀ x, x ∈ L ↔ x ∈ L') : Cla css L ↔ Cla css L' :=
  ⟨fun hc => hc.trans fun x hx => .fact ((h x).1 hx), fun hc => hc.trans fun x hx => .fact ((h x).2 hx)⟩
/-- a closure is calm -/
theorem calm_clos {css : List (List Int)} {L K : List Int} (nz : Nz css) (hn : ¬ Cla css L) (h : ∀ x, x ∈ K ↔ Der css L x) : Con K ∧ Calm css K := by
  refine ⟨fun l a b => hn (.inl ⟨l, (h l).1 a, (h _).1 b⟩), fun k hk => ?_⟩
  rcases kd_cases K (css.getD k []) with ⟨e, _⟩ | ⟨e, h1, h2⟩ | ⟨l, e, h1, h2, h3, h4⟩
  · exact e
  · exact absurd (.inr ⟨_, getD_in hk, fun m hm => (h _).1 (h1 m hm)⟩) hn
  · exact absurd ((h l).2 (.unit (getD_in hk) h1 fun m hm hne => (h _).1 (h3 m hm hne))) (h4 l h1)

/-- the opposites -/
def opp (c : List Int) : List Int := c.map (fun x => -x)
theorem mem_opp {c : List Int} {x : Int} : x ∈ opp c ↔ -x ∈ c := by
  unfold opp; rw [List.mem_map]
  constructor
  · rintro ⟨y, a, rfl⟩; simpa using a
  · intro h; exact ⟨-x, h, by simp⟩
/-- c follows -/
noncomputable def folB (css : List (List Int)) (c : List Int) : Bool := claB css (opp c)
/-- the partner's other literals -/
def rst (d : List Int) (p : Int) : List Int := d.filter (fun l => decide (l ≠ -p))
theorem mem_rst {d : List Int} {p x : Int} : x ∈ rst d p ↔ x ∈ d ∧ x ≠ -p := by unfold rst; rw [List.mem_filter, decide_eq_true_eq]
/-- all partners' resolvents follow -/
noncomputable def parB (css : List (List Int)) (L : List Int) (p : Int) (ds : List (List Int)) : Bool := ds.all fun d => !decide (-p ∈ d) || claB css (L ++ opp (rst d p))
/-- c is safe -/
noncomputable def safB (css : List (List Int)) : List Int → Bool
  | [] => false
  | p :: r => parB css (opp (p :: r)) p css
theorem parB_clos {css : List (List Int)} {L K : List Int} {p : Int} {ds : List (List Int)} (h : ∀ x, x ∈ K ↔ Der css L x) : parB css K p ds = parB css L p ds := by
  unfold parB
  congr 1
  funext d
  rw [claB_congr (cla_clos (G := opp (rst d p)) h)]
theorem parB_clash {css : List (List Int)} {L : List Int} {p : Int} {ds : List (List Int)} (h : Cla css L) : parB css L p ds = true := by
  unfold parB
  rw [List.all_eq_true]
  intro d _
  rw [Bool.or_eq_true]
  exact .inr (claB_of (h.trans fun x hx => .fact (List.mem_append.2 (.inl hx))))
/-- what the kind is -/
noncomputable def kndI (css : List (List Int)) (c : List Int) : Int := if folB css c then 1 else if safB css c then 2 else 0
end Go.Proofs.YtjajafeaengnjaaGreatDoor
set_option linter.unusedSimpArgs false
set_option linter.unusedVariables false
namespace Go.Proofs.YtjajafeaengnjaaGreatDoor

/-- a piece of a list that is linked both ways: behind p, ahead of q -/
def Sg (lk : List (Nat × Nat)) : Nat → List Nat → Nat → Prop
  | _, [], _ => True
  | p, a :: L, q => lk[a]? = some (L.headD q, p) ∧ Sg lk a L q

theorem headD_app {X Y : List Nat} {q : Nat} : (X ++ Y).headD q = X.headD (Y.headD q) := by cases X <;> rfl
theorem Sg.app {lk : List (Nat × Nat)} {Y : List Nat} {q : Nat} : ∀ {X : List Nat} {p : Nat}, Sg lk p (X ++ Y) q ↔ Sg lk p X (Y.headD q) ∧ Sg lk (X.getLastD p) Y q
  | [], p => by simp [Sg]
  | a :: X, p => by
    have ih := Sg.app (lk := lk) (Y := Y) (q := q) (X := X) (p := a)
    have e : (a :: X).getLastD p = X.getLastD a := List.getLastD_cons ..
    rw [e]
    show (lk[a]? = some ((X ++ Y).headD q, p) ∧ Sg lk a (X ++ Y) q) ↔ (lk[a]? = some (X.headD (Y.headD q), p) ∧ Sg lk a X (Y.headD q)) ∧ _
    rw [ih, headD_app, and_assoc]
theorem Sg.set {lk : List (Nat × Nat)} {q b : Nat} {v : Nat × Nat} : ∀ {L : List Nat} {p : Nat}, b ∉ L → Sg lk p L q → Sg (lk.set b v) p L q
  | [], _, _, _ => trivial
  | a :: L, p, hb, h => by
    simp only [List.mem_cons, not_or] at hb
    exact ⟨by rw [List.getElem?_set_ne hb.1]; exact h.1, Sg.set hb.2 h.2⟩
theorem Sg.lt {lk : List (Nat × Nat)} {q : Nat} : ∀ {L : List Nat} {p : Nat}, Sg lk p L q → ∀ a ∈ L, a < lk.length
  | [], _, _, a, ha => by simp at ha
  | b :: L, p, h, a, ha => by
    rcases List.mem_cons.1 ha with e | e
    · subst e; exact (List.getElem?_eq_some_iff.1 h.1).1
    · exact Sg.lt h.2 a e
theorem getD_of {lk : List (Nat × Nat)} {a : Nat} {x : Nat × Nat} (h : lk[a]? = some x) : lk.getD a (0, 0) = x := by
  rw [List.getD_eq_getElem?_getD, h]; rfl
/-- the first one hears who stands ahead of it -/
def frst (lk : List (Nat × Nat)) (f p : Nat) : List (Nat × Nat) := if f = 0 then lk else lk.set f ((lk.getD f (0, 0)).1, p)
/-- the last one hears who stands behind it -/
def lst (lk : List (Nat × Nat)) (l q : Nat) : List (Nat × Nat) := if l = 0 then lk else lk.set l (q, (lk.getD l (0, 0)).2)
theorem frst_len (lk : List (Nat × Nat)) (f p : Nat) : (frst lk f p).length = lk.length := by unfold frst; split <;> simp
theorem lst_len (lk : List (Nat × Nat)) (f p : Nat) : (lst lk f p).length = lk.length := by unfold lst; split <;> simp
theorem Sg.frst {lk : List (Nat × Nat)} {a q p : Nat} {Y : List Nat} (h : Sg lk a Y q) (hn : Y.Nodup) (h0 : ∀ y ∈ Y, 0 < y) : Sg (frst lk (Y.headD 0) p) p Y q := by
  cases Y with
  | nil => trivial
  | cons y Y =>
    have hy := h0 y (by simp)
    have e : Go.Proofs.YtjajafeaengnjaaGreatDoor.frst lk ((y :: Y).headD 0) p = lk.set y ((lk.getD y (0, 0)).1, p) := by
      unfold Go.Proofs.YtjajafeaengnjaaGreatDoor.frst; rw [if_neg (by simp; omega)]; rfl
    rw [e, getD_of h.1]
    have hlt := (List.getElem?_eq_some_iff.1 h.1).1
    exact ⟨by simp [hlt], Sg.set (List.nodup_cons.1 hn).1 h.2⟩
theorem Sg.lst {lk : List (Nat × Nat)} {p a q : Nat} {X : List Nat} (h : Sg lk p X a) (hn : X.Nodup) (h0 : ∀ y ∈ X, 0 < y) : Sg (lst lk (X.getLastD 0) q) p X q := by
  rcases List.eq_nil_or_concat X with e | ⟨X', x, e⟩
  · subst e; trivial
  · rw [List.concat_eq_append] at e
    subst e
    have hx := h0 x (by simp)
    have e : (X' ++ [x]).getLastD 0 = x := by simp
    rw [e]
    have e : Go.Proofs.YtjajafeaengnjaaGreatDoor.lst lk x q = lk.set x (q, (lk.getD x (0, 0)).2) := by
      unfold Go.Proofs.YtjajafeaengnjaaGreatDoor.lst; rw [if_neg (by omega)]
    rw [e]
    rw [Sg.app] at h ⊢
    have h2 : lk[x]? = some (a, X'.getLastD p) := h.2.1
    rw [getD_of h2]
    have hlt := (List.getElem?_eq_some_iff.1 h2).1
    have hx2 : x ∉ X' := by
      have := List.nodup_append.1 hn
      exact fun hm => this.2.2 x hm x (by simp) rfl
    exact ⟨Sg.set hx2 h.1, by simp [hlt], trivial⟩

/-- a link taken out of its list -/
def skL (lk : List (Nat × Nat)) (a : Nat) : List (Nat × Nat) := lst (frst lk (lk.getD a (0, 0)).1 (lk.getD a (0, 0)).2) (lk.getD a (0, 0)).2 (lk.getD a (0, 0)).1
def skF (lk : List (Nat × Nat)) (fs : List Nat) (a i : Nat) : List Nat := if (lk.getD a (0, 0)).2 = 0 then fs.set i (lk.getD a (0, 0)).1 else fs
/-- a link put to a list's head -/
def enL (lk : List (Nat × Nat)) (f a : Nat) : List (Nat × Nat) := frst (lk.set a (f, 0)) f a
theorem skL_len (lk : List (Nat × Nat)) (a : Nat) : (skL lk a).length = lk.length := by unfold skL; rw [lst_len, frst_len]
theorem skF_len (lk : List (Nat × Nat)) (fs : List Nat) (a i : Nat) : (skF lk fs a i).length = fs.length := by unfold skF; split <;> simp
theorem enL_len (lk : List (Nat × Nat)) (f a : Nat) : (enL lk f a).length = lk.length := by unfold enL; rw [frst_len]; simp

def fupd (ch : Nat → List Nat) (i : Nat) (L : List Nat) : Nat → List Nat := fun j => if j = i then L else ch j
theorem fupd_self (ch : Nat → List Nat) (i : Nat) (L : List Nat) : fupd ch i L i = L := by simp [fupd]
theorem fupd_ne (ch : Nat → List Nat) {i j : Nat} (L : List Nat) (h : j ≠ i) : fupd ch i L j = ch j := by simp [fupd, h]
/-- the lists of links, one a literal -/
structure Cn (n : Nat) (lk : List (Nat × Nat)) (fs : List Nat) (ch : Nat → List Nat) : Prop where
  len : fs.length = n
  hd : ∀ i, i < n → fs[i]? = some ((ch i).headD 0)
  sg : ∀ i, Sg lk 0 (ch i) 0
  nd : ∀ i, (ch i).Nodup
  dj : ∀ i j a, a ∈ ch i → a ∈ ch j → i = j
  pos : ∀ i a, a ∈ ch i → 0 < a
theorem frst_eq {lk lk' : List (Nat × Nat)} {f p : Nat} : ∀ {L : List Nat} {a q : Nat}, f ∉ L → Sg lk a L q → Sg (frst lk f p) a L q := fun {L a q} h h1 => by
  unfold frst; split
  · exact h1
  · exact Sg.set h h1
theorem lst_eq {lk lk' : List (Nat × Nat)} {f p : Nat} : ∀ {L : List Nat} {a q : Nat}, f ∉ L → Sg lk a L q → Sg (lst lk f p) a L q := fun {L a q} h h1 => by
  unfold lst; split
  · exact h1
  · exact Sg.set h h1
theorem headD_mem {Y : List Nat} (h : Y.headD 0 ≠ 0) : Y.headD 0 ∈ Y := by cases Y <;> simp_all
theorem lastD_mem {X : List Nat} (h : X.getLastD 0 ≠ 0) : X.getLastD 0 ∈ X := by
  rcases List.eq_nil_or_concat X with e | ⟨X', x, e⟩
  · subst e; simp at h
  · rw [List.concat_eq_append] at e; subst e; simp
theorem frst_zero (lk : List (Nat × Nat)) (p : Nat) : frst lk 0 p = lk := by simp [frst]
theorem lst_zero (lk : List (Nat × Nat)) (p : Nat) : lst lk 0 p = lk := by simp [lst]
theorem frst_off {lk : List (Nat × Nat)} {Y L : List Nat} {p a q : Nat} (hd : ∀ x ∈ Y, x ∉ L) (h : Sg lk a L q) : Sg (frst lk (Y.headD 0) p) a L q := by
  by_cases e : Y.headD 0 = 0
  · rw [e, frst_zero]; exact h
  · exact frst_eq (lk' := lk) (hd _ (headD_mem e)) h
theorem lst_off {lk : List (Nat × Nat)} {X L : List Nat} {p a q : Nat} (hd : ∀ x ∈ X, x ∉ L) (h : Sg lk a L q) : Sg (lst lk (X.getLastD 0) p) a L q := by
  by_cases e : X.getLastD 0 = 0
  · rw [e, lst_zero]; exact h
  · exact lst_eq (lk' := lk) (hd _ (lastD_mem e)) h
section
variable {n : Nat} {lk : List (Nat × Nat)} {fs : List Nat} {ch : Nat → List Nat}
theorem Cn.at' (h : Cn n lk fs ch) {i a : Nat} {X Y : List Nat} (hi : ch i = X ++ a :: Y) : lk[a]? = some (Y.headD 0, X.getLastD 0) ∧ Sg lk 0 X a ∧ Sg lk a Y 0 := by
  have h1 := h.sg i
  rw [hi, Sg.app] at h1
  exact ⟨h1.2.1, h1.1, h1.2.2⟩
theorem Cn.strike (h : Cn n lk fs ch) {i a : Nat} {X Y : List Nat} (hin : i < n) (hi : ch i = X ++ a :: Y) : Cn n (skL lk a) (skF lk fs a i) (fupd ch i (X ++ Y)) := by
  obtain ⟨ha, hX, hY⟩ := h.at' hi
  have hnd := h.nd i
  rw [hi] at hnd
  obtain ⟨n1, n2, n3⟩ := List.nodup_append.1 hnd
  obtain ⟨n4, n5⟩ := List.nodup_cons.1 n2
  have inX : ∀ x ∈ X, x ∈ ch i := fun x hx => by rw [hi]; simp [hx]
  have inY : ∀ x ∈ Y, x ∈ ch i := fun x hx => by rw [hi]; simp [hx]
  have dXY : ∀ x ∈ X, x ∉ Y := fun x hx hy => n3 x hx x (by simp [hy]) rfl
  have eL : skL lk a = lst (frst lk (Y.headD 0) (X.getLastD 0)) (X.getLastD 0) (Y.headD 0) := by unfold skL; rw [getD_of ha]
  have eF : skF lk fs a i = if X.getLastD 0 = 0 then fs.set i (Y.headD 0) else fs := by unfold skF; rw [getD_of ha]
  refine ⟨by rw [skF_len]; exact h.len, fun j hj => ?_, fun j => ?_, fun j => ?_, fun j k b hb hc => ?_, fun j b hb => ?_⟩
  · rw [eF]
    by_cases e : j = i
    · subst e
      rw [fupd_self]
      split
      · rename_i e0
        have : X = [] := by
          rcases List.eq_nil_or_concat X with e | ⟨X', x, e⟩
          · exact e
          · exfalso
            have : X.getLastD 0 ∈ X := by rw [e, List.concat_eq_append]; simp
            have := h.pos j _ (inX _ this)
            omega
        subst this
        have := h.len
        rw [List.getElem?_set_self (by omega)]; rfl
      · rename_i e0
        rw [h.hd j hj, hi, headD_app, headD_app]
        cases X with
        | nil => simp at e0
        | cons x X => rfl
    · rw [fupd_ne _ _ e]
      split
      · rw [List.getElem?_set_ne (fun e2 => e e2.symm)]; exact h.hd j hj
      · exact h.hd j hj
  · rw [eL]
    by_cases e : j = i
    · subst e
      rw [fupd_self, Sg.app]
      have hY1 : Sg (Go.Proofs.YtjajafeaengnjaaGreatDoor.frst lk (Y.headD 0) (X.getLastD 0)) (X.getLastD 0) Y 0 := hY.frst n5 fun y hy => h.pos j y (inY y hy)
      have hX1 : Sg (Go.Proofs.YtjajafeaengnjaaGreatDoor.frst lk (Y.headD 0) (X.getLastD 0)) 0 X a := frst_off (fun x hx hx2 => dXY x hx2 hx) hX
      exact ⟨hX1.lst n1 fun y hy => h.pos j y (inX y hy), lst_off dXY hY1⟩
    · rw [fupd_ne _ _ e]
      exact lst_off (fun x hx hx2 => e (h.dj j i x hx2 (inX x hx))) (frst_off (fun x hx hx2 => e (h.dj j i x hx2 (inY x hx))) (h.sg j))
  · by_cases e : j = i
    · subst e; rw [fupd_self]
      exact List.nodup_append.2 ⟨n1, n5, fun x hx y hy e => n3 x hx y (by simp [hy]) e⟩
    · rw [fupd_ne _ _ e]; exact h.nd j
  · have key : ∀ j b, b ∈ fupd ch i (X ++ Y) j → b ∈ ch j := fun j b hb => by
      by_cases e : j = i
      · subst e; rw [fupd_self] at hb
        rcases List.mem_append.1 hb with c | c
        · exact inX _ c
        · exact inY _ c
      · rwa [fupd_ne _ _ e] at hb
    exact h.dj j k b (key j b hb) (key k b hc)
  · by_cases e : j = i
    · subst e; rw [fupd_self] at hb
      rcases List.mem_append.1 hb with c | c
      · exact h.pos _ _ (inX _ c)
      · exact h.pos _ _ (inY _ c)
    · rw [fupd_ne _ _ e] at hb; exact h.pos _ _ hb
theorem Cn.enlist (h : Cn n lk fs ch) {i a : Nat} (hin : i < n) (ha : ∀ j, a ∉ ch j) (h0 : 0 < a) (hlt : a < lk.length) : Cn n (enL lk ((ch i).headD 0) a) (fs.set i a) (fupd ch i (a :: ch i)) := by
  refine ⟨by simp [h.len], fun j hj => ?_, fun j => ?_, fun j => ?_, fun j k b hb hc => ?_, fun j b hb => ?_⟩
  · by_cases e : j = i
    · subst e; have := h.len; rw [fupd_self, List.getElem?_set_self (by omega)]; rfl
    · rw [fupd_ne _ _ e, List.getElem?_set_ne (fun e2 => e e2.symm)]; exact h.hd j hj
  · unfold enL
    by_cases e : j = i
    · subst e
      rw [fupd_self]
      have h1 : Sg (lk.set a ((ch j).headD 0, 0)) 0 (ch j) 0 := Sg.set (ha j) (h.sg j)
      refine ⟨?_, h1.frst (h.nd j) fun y hy => h.pos j y hy⟩
      unfold Go.Proofs.YtjajafeaengnjaaGreatDoor.frst
      split
      · simp [hlt]
      · rename_i e0
        rw [List.getElem?_set_ne (fun e2 => ha j (by rw [← e2]; exact headD_mem e0))]
        simp [hlt]
    · rw [fupd_ne _ _ e]
      exact frst_off (fun x hx hx2 => e (h.dj j i x hx2 hx)) (Sg.set (ha j) (h.sg j))
  · by_cases e : j = i
    · subst e; rw [fupd_self]; exact List.nodup_cons.2 ⟨ha j, h.nd j⟩
    · rw [fupd_ne _ _ e]; exact h.nd j
  · have key : ∀ j b, b ∈ fupd ch i (a :: ch i) j → (b = a ∧ j = i) ∨ b ∈ ch j := fun j b hb => by
      by_cases e : j = i
      · subst e; rw [fupd_self] at hb
        rcases List.mem_cons.1 hb with c | c
        · exact .inl ⟨c, rfl⟩
        · exact .inr c
      · rw [fupd_ne _ _ e] at hb; exact .inr hb
    rcases key j b hb with ⟨c1, c2⟩ | c1 <;> rcases key k b hc with ⟨d1, d2⟩ | d1
    · rw [c2, d2]
    · exact absurd d1 (by rw [c1]; exact ha k)
    · exact absurd c1 (by rw [d1]; exact ha j)
    · exact h.dj j k b c1 d1
  · by_cases e : j = i
    · subst e; rw [fupd_self] at hb
      rcases List.mem_cons.1 hb with c | c
      · omega
      · exact h.pos _ _ c
    · rw [fupd_ne _ _ e] at hb; exact h.pos _ _ hb
end
end Go.Proofs.YtjajafeaengnjaaGreatDoor
set_option linter.unusedSimpArgs false
set_option linter.unusedVariables false
namespace Go.Proofs.YtjajafeaengnjaaGreatDoor

abbrev Fcl := List (List Int × Nat)
/-- a clause's literals, by its number -/
def lts (cl : Fcl) (k : Nat) : List Int := (cl.getD k ([], 0)).1
/-- the clauses that are there -/
def cssOf (cl : Fcl) : List (List Int) := (cl.map Prod.fst).filter (fun c => decide (c ≠ []))
theorem lts_in {cl : Fcl} {k : Nat} (h : lts cl k ≠ []) : k < cl.length := by
  refine Classical.byContradiction fun hn => h ?_
  unfold lts
  rw [List.getD_eq_getElem?_getD, List.getElem?_eq_none (by omega)]; rfl
theorem lts_at {cl : Fcl} {k : Nat} {x : List Int × Nat} (h : cl[k]? = some x) : lts cl k = x.1 := by
  unfold lts; rw [List.getD_eq_getElem?_getD, h]; rfl
theorem mem_cssOf {cl : Fcl} {c : List Int} : c ∈ cssOf cl ↔ c ≠ [] ∧ ∃ k, k < cl.length ∧ lts cl k = c := by
  unfold cssOf
  rw [List.mem_filter, decide_eq_true_eq, List.mem_map]
  constructor
  · rintro ⟨⟨x, hx, e⟩, h⟩
    obtain ⟨k, hk, e2⟩ := List.getElem_of_mem hx
    exact ⟨h, k, hk, by rw [lts_at (List.getElem?_eq_getElem hk), e2, e]⟩
  · rintro ⟨h, k, hk, e⟩
    exact ⟨⟨cl[k], List.getElem_mem hk, by rw [← e, lts_at (List.getElem?_eq_getElem hk)]⟩, h⟩
theorem lts_set_self {cl : Fcl} {k : Nat} {x : List Int × Nat} (h : k < cl.length) : lts (cl.set k x) k = x.1 := lts_at (by simp [h])
theorem lts_set_ne {cl : Fcl} {k j : Nat} {x : List Int × Nat} (h : j ≠ k) : lts (cl.set k x) j = lts cl j := by
  unfold lts; rw [List.getD_eq_getElem?_getD, List.getD_eq_getElem?_getD, List.getElem?_set_ne (fun e => h e.symm)]
/-- the watches' book -/
structure Wa (n : Nat) (cl : Fcl) (lk : List (Nat × Nat)) (fs : List Nat) (ch : Nat → List Nat) : Prop where
  c : Cn n lk fs ch
  two : lk.length = 2 * cl.length
  mem : ∀ i a, a ∈ ch i ↔ 2 ≤ (lts cl (a / 2)).length ∧ idx ((lts cl (a / 2)).getD (a % 2) 0) = (i : Int)
  lit : ∀ k, ∀ l ∈ lts cl k, fmd l = true ∧ idx l < n
  nd : ∀ k, (lts cl k).Nodup
  zero : lts cl 0 = []
  ev : n % 2 = 0
  hn : n ≤ 2097152
theorem getD_mem0 {c : List Int} {k : Nat} (h : k < c.length) : c.getD k 0 ∈ c := by
  rw [List.getD_eq_getElem?_getD, List.getElem?_eq_getElem h]; exact List.getElem_mem h
theorem getD_inj0 {c : List Int} (hn : c.Nodup) {j k : Nat} (hj : j < c.length) (hk : k < c.length) (h : c.getD j 0 = c.getD k 0) : j = k := by
  rw [List.getD_eq_getElem?_getD, List.getD_eq_getElem?_getD, List.getElem?_eq_getElem hj, List.getElem?_eq_getElem hk] at h
  exact (List.getElem_inj hn).1 h
/-- two places of a list change -/
def mvd (c : List Int) (e p : Nat) : List Int := (c.set e (c.getD p 0)).set p (c.getD e 0)
theorem mvd_len (c : List Int) (e p : Nat) : (mvd c e p).length = c.length := by simp [mvd]
theorem mvd_perm {c : List Int} {e p : Nat} (he : e < c.length) (hp : p < c.length) : (mvd c e p).Perm c := by
  have := List.set_set_perm (as := c) he hp
  unfold mvd
  rw [List.getD_eq_getElem?_getD, List.getD_eq_getElem?_getD, List.getElem?_eq_getElem hp, List.getElem?_eq_getElem he]
  exact this
theorem mvd_e {c : List Int} {e p : Nat} (he : e < c.length) (hne : e ≠ p) : (mvd c e p).getD e 0 = c.getD p 0 := by
  unfold mvd
  rw [List.getD_eq_getElem?_getD, List.getElem?_set_ne (fun h => hne h.symm), List.getElem?_set_self he]; rfl
theorem mvd_o {c : List Int} {e p j : Nat} (h1 : j ≠ e) (h2 : j ≠ p) : (mvd c e p).getD j 0 = c.getD j 0 := by
  unfold mvd
  rw [List.getD_eq_getElem?_getD, List.getElem?_set_ne (fun h => h2 h.symm), List.getElem?_set_ne (fun h => h1 h.symm), ← List.getD_eq_getElem?_getD]
/-- the same clauses, their literals in another order -/
def Fpm (cl cl' : Fcl) : Prop := cl'.length = cl.length ∧ ∀ k, (lts cl' k).Perm (lts cl k)
theorem Fpm.refl (cl : Fcl) : Fpm cl cl := ⟨rfl, fun _ => .refl _⟩
theorem Fpm.trans {a b c : Fcl} (h : Fpm a b) (h' : Fpm b c) : Fpm a c := ⟨h'.1.trans h.1, fun k => (h'.2 k).trans (h.2 k)⟩
theorem Fpm.symm {a b : Fcl} (h : Fpm a b) : Fpm b a := ⟨h.1.symm, fun k => (h.2 k).symm⟩
theorem Fpm.css {a b : Fcl} (h : Fpm a b) : ∀ c ∈ cssOf a, ∃ c' ∈ cssOf b, ∀ x, x ∈ c ↔ x ∈ c' := fun c hc => by
  obtain ⟨h0, k, hk, e⟩ := mem_cssOf.1 hc
  have hp := h.2 k
  rw [e] at hp
  exact ⟨lts b k, mem_cssOf.2 ⟨fun e2 => h0 (by rw [e2] at hp; exact List.Perm.nil_eq hp |>.symm), k, by rw [h.1]; exact hk, rfl⟩, fun x => (hp.mem_iff).symm⟩
theorem Fpm.set {cl : Fcl} {k : Nat} {c : List Int} {fr : Nat} (hp : c.Perm (lts cl k)) : Fpm cl (cl.set k (c, fr)) := by
  refine ⟨by simp, fun j => ?_⟩
  by_cases e : j = k
  · subst e
    by_cases hk : j < cl.length
    · rw [lts_set_self hk]; exact hp
    · rw [List.set_eq_of_length_le (by omega)]
  · rw [lts_set_ne e]
section
variable {n : Nat} {cl : Fcl} {lk : List (Nat × Nat)} {fs : List Nat} {ch : Nat → List Nat}
/-- a link of a list -/
theorem Wa.link (h : Wa n cl lk fs ch) {i a : Nat} (ha : a ∈ ch i) : 2 ≤ (lts cl (a / 2)).length ∧ idx ((lts cl (a / 2)).getD (a % 2) 0) = (i : Int) ∧ i < n ∧ a / 2 < cl.length ∧ 2 ≤ a ∧ a < lk.length ∧ (lts cl (a / 2)).getD (a % 2) 0 ∈ lts cl (a / 2) := by
  obtain ⟨h1, h2⟩ := (h.mem i a).1 ha
  have h3 : lts cl (a / 2) ≠ [] := by intro e; rw [e] at h1; simp at h1
  have h4 := lts_in h3
  have h5 : (lts cl (a / 2)).getD (a % 2) 0 ∈ lts cl (a / 2) := getD_mem0 (by omega)
  have h6 := (h.lit _ _ h5).2
  have h7 : a / 2 ≠ 0 := fun e => h3 (by rw [e]; exact h.zero)
  have h8 := h.two
  exact ⟨h1, h2, by omega, h4, by omega, by omega, h5⟩
theorem Wa.move (h : Wa n cl lk fs ch) {i j k e p a fr : Nat} {X Y : List Nat} (he : e < 2) (ea : a = 2 * k + e) (hi : ch i = X ++ a :: Y) (hp2 : 2 ≤ p) (hp : p < (lts cl k).length) (hj : idx ((lts cl k).getD p 0) = (j : Int)) :
    Wa n (cl.set k (mvd (lts cl k) e p, fr)) (enL (skL lk a) ((ch j).headD 0) a) ((skF lk fs a i).set j a) (fupd (fupd ch i (X ++ Y)) j (a :: ch j)) ∧ fupd (fupd ch i (X ++ Y)) j (a :: ch j) i = X ++ Y := by
  have hain : a ∈ ch i := by rw [hi]; simp
  obtain ⟨l1, l2, l3, l4, l5, l6, l7⟩ := h.link hain
  have ek : a / 2 = k := by omega
  have ee : a % 2 = e := by omega
  rw [ek, ee] at l2 l7
  rw [ek] at l1 l4
  have hpm : (lts cl k).getD p 0 ∈ lts cl k := getD_mem0 hp
  have hjn : j < n := by have := (h.lit _ _ hpm).2; omega
  have hij : j ≠ i := fun e1 => by
    subst e1
    have := idx_inj (h.lit _ _ hpm).1 (h.lit _ _ l7).1 (by rw [hj, l2])
    have := getD_inj0 (h.nd k) hp (by omega) this
    omega
  have c1 := h.c.strike l3 hi
  have hnd := h.c.nd i
  rw [hi] at hnd
  have haXY : a ∉ X ++ Y := fun hm => by
    obtain ⟨n1, n2, n3⟩ := List.nodup_append.1 hnd
    rcases List.mem_append.1 hm with q | q
    · exact n3 a q a (by simp) rfl
    · exact (List.nodup_cons.1 n2).1 q
  have hno : ∀ q, a ∉ fupd ch i (X ++ Y) q := fun q hq => by
    by_cases e1 : q = i
    · subst e1; rw [fupd_self] at hq; exact haXY hq
    · rw [fupd_ne _ _ e1] at hq; exact e1 (h.c.dj q i a hq hain)
  have c2 := c1.enlist (i := j) (a := a) hjn hno (by omega) (by rw [skL_len]; exact l6)
  rw [fupd_ne _ _ hij] at c2
  have hmem : ∀ q b, b ∈ fupd (fupd ch i (X ++ Y)) j (a :: ch j) q ↔ (b = a ∧ q = j) ∨ (b ≠ a ∧ b ∈ ch q) := fun q b => by
    by_cases e1 : q = j
    · subst e1
      rw [fupd_self, List.mem_cons]
      have : a ∉ ch q := fun hh => hij (h.c.dj q i a hh hain)
      by_cases e2 : b = a
      · subst e2; simp
      · simp [e2]
    · rw [fupd_ne _ _ e1]
      by_cases e3 : q = i
      · subst e3
        rw [fupd_self, hi]
        by_cases e2 : b = a
        · subst e2; simp [e1]; simpa using haXY
        · simp [e2]
      · rw [fupd_ne _ _ e3]
        by_cases e2 : b = a
        · subst e2; simp [e1]; exact fun hh => e3 (h.c.dj q i b hh hain)
        · simp [e2]
  have hlen := mvd_len (lts cl k) e p
  have hperm : (mvd (lts cl k) e p).Perm (lts cl k) := mvd_perm (by omega) hp
  have hlts : ∀ q, (lts (cl.set k (mvd (lts cl k) e p, fr)) q).Perm (lts cl q) := (Fpm.set hperm).2
  refine ⟨⟨c2, ?_, fun q b => ?_, fun q l hl => h.lit q l ((hlts q).mem_iff.1 hl), fun q => (hlts q).nodup_iff.2 (h.nd q), ?_, h.ev, h.hn⟩, by rw [fupd_ne _ _ (fun e1 => hij e1.symm), fupd_self]⟩
  · rw [enL_len, skL_len, List.length_set]; exact h.two
  · rw [hmem q b]
    by_cases e1 : b / 2 = k
    · rw [e1, lts_set_self l4]
      show _ ↔ 2 ≤ (mvd (lts cl k) e p).length ∧ idx ((mvd (lts cl k) e p).getD (b % 2) 0) = (q : Int)
      rw [hlen]
      by_cases e2 : b = a
      · subst e2
        rw [ee, mvd_e (by omega) (by omega), hj]
        constructor
        · rintro (⟨_, e4⟩ | ⟨e4, _⟩)
          · exact ⟨l1, by omega⟩
          · exact absurd rfl e4
        · rintro ⟨_, e4⟩; exact .inl ⟨rfl, by omega⟩
      · have e5 : b % 2 ≠ e := by omega
        rw [mvd_o e5 (by omega)]
        have := h.mem q b
        rw [e1] at this
        rw [← this]
        simp [e2]
    · rw [lts_set_ne e1]
      have e2 : b ≠ a := fun e2 => e1 (by rw [e2]; exact ek)
      rw [← h.mem q b]
      simp [e2]
  · have := (hlts 0)
    rw [h.zero] at this
    exact List.Perm.eq_nil this
end
/-- the row of what is true -/
structure Frk (n : Nat) (R : List Int) : Prop where
  nd : R.Nodup
  con : Con R
  f : ∀ x ∈ R, fmd x = true ∧ idx x < n
theorem Frk.put {n : Nat} {R : List Int} {l : Int} (h : Frk n R) (h1 : l ∉ R) (h2 : -l ∉ R) (hf : fmd l = true) (hi : idx l < n) : Frk n (R ++ [l]) :=
  ⟨List.nodup_append.2 ⟨h.nd, by simp, fun x hx y hy e => h1 (by rw [show y = l by simpa using hy] at e; rw [← e]; exact hx)⟩, h.con.snoc (fmd_range hf).1 h2, fun x hx => by
    rcases List.mem_append.1 hx with a | a
    · exact h.f x a
    · rw [show x = l by simpa using a]; exact ⟨hf, hi⟩⟩
theorem Frk.len {n : Nat} {R : List Int} (h : Frk n R) : R.length ≤ 2097152 := by
  have e := nodup_len6 h.nd (((tid_rising R).imp fun hlt e => by rw [e] at hlt; exact absurd hlt (Int.lt_irrefl _)) : (tid R).Nodup) fun x => by rw [mem_tid]; exact ⟨fun hx => ⟨hx, (h.f x hx).1⟩, fun hx => hx.1⟩
  rw [e]; exact tid_len R
theorem Frk.pre {n : Nat} {R : List Int} (h : Frk n R) (m : Nat) : Frk n (R.take m) :=
  ⟨h.nd.sublist (List.take_sublist m R), fun l hl hn => h.con l (List.mem_of_mem_take hl) (List.mem_of_mem_take hn), fun x hx => h.f x (List.mem_of_mem_take hx)⟩
/-- where a watched literal is false by F, the other one stands in R -/
def Qt (cl : Fcl) (F R : List Int) : Prop := ∀ k, 2 ≤ (lts cl k).length → ∀ e, e < 2 → -((lts cl k).getD e 0) ∈ F → (lts cl k).getD (1 - e) 0 ∈ R
theorem fmem_take {R : List Int} {m : Nat} (h : m < R.length) {x : Int} : x ∈ R.take (m + 1) ↔ x ∈ R.take m ∨ x = R.getD m 0 := by
  rw [List.take_succ_eq_append_getElem h, List.mem_append, List.mem_singleton, List.getD_eq_getElem?_getD, List.getElem?_eq_getElem h]; rfl
/-- between two literals that are told -/
structure To (n : Nat) (cl0 cl : Fcl) (lk : List (Nat × Nat)) (fs : List Nat) (ch : Nat → List Nat) (R0 R : List Int) (td : Nat) (T : List Int) : Prop where
  wa : Wa n cl lk fs ch
  pm : Fpm cl0 cl
  rk : Frk n R
  pre : R0 <+: R
  tl : td ≤ R.length
  qt : Qt cl (R.take td) R
  qb : Qt cl T T
  tt : ∀ x ∈ T, x ∈ R.take td
  der : ∀ x ∈ R, Der (cssOf cl0) R0 x
/-- while one is told: X have heard it, Y not yet -/
structure Tl (n : Nat) (cl0 cl : Fcl) (lk : List (Nat × Nat)) (fs : List Nat) (ch : Nat → List Nat) (R0 R : List Int) (td : Nat) (T : List Int) (i : Nat) (X Y : List Nat) : Prop where
  wa : Wa n cl lk fs ch
  pm : Fpm cl0 cl
  rk : Frk n R
  pre : R0 <+: R
  tl : td < R.length
  hi : idx (-(R.getD td 0)) = (i : Int)
  ec : ch i = X ++ Y
  qt : ∀ k, 2 ≤ (lts cl k).length → ∀ e, e < 2 → -((lts cl k).getD e 0) ∈ R.take (td + 1) → (lts cl k).getD (1 - e) 0 ∈ R ∨ 2 * k + e ∈ Y
  qb : Qt cl T T
  tt : ∀ x ∈ T, x ∈ R.take td
  der : ∀ x ∈ R, Der (cssOf cl0) R0 x
section
variable {n : Nat} {cl0 cl : Fcl} {lk : List (Nat × Nat)} {fs : List Nat} {ch : Nat → List Nat} {R0 R : List Int} {td : Nat} {T : List Int} {i : Nat} {X Y : List Nat}
theorem neg_neg0 {x y : Int} (h : -x = y) : x = -y := by omega
theorem To.tell (h : To n cl0 cl lk fs ch R0 R td T) (hlt : td < R.length) : ∃ i : Nat, i < n ∧ idx (-(R.getD td 0)) = (i : Int) ∧ Tl n cl0 cl lk fs ch R0 R td T i [] (ch i) := by
  have hm : R.getD td 0 ∈ R := getD_mem0 hlt
  have hf := h.rk.f _ hm
  have hr := idx_range (fmd_neg hf.1)
  have hev := h.wa.ev
  have hlt2 : idx (-(R.getD td 0)) < n := by
    have h0 := fmd_range hf.1
    by_cases hs : 0 < R.getD td 0
    · rw [(there_neg (fmd_neg hf.1) (by omega)).1]; have := hf.2; rw [(there_pos hf.1 hs).1] at this; omega
    · rw [(there_pos (fmd_neg hf.1) (by omega)).1]; have := hf.2; rw [(there_neg hf.1 (by omega)).1] at this; omega
  refine ⟨(idx (-(R.getD td 0))).toNat, by omega, by omega, h.wa, h.pm, h.rk, h.pre, hlt, by omega, by simp, fun k hk e he hq => ?_, h.qb, h.tt, h.der⟩
  rcases (fmem_take hlt).1 hq with a | a
  · exact .inl (h.qt k hk e he a)
  · refine .inr ((h.wa.mem _ _).2 ?_)
    rw [show (2 * k + e) / 2 = k by omega, show (2 * k + e) % 2 = e by omega]
    exact ⟨hk, by rw [neg_neg0 a]; omega⟩
theorem Tl.fin (h : Tl n cl0 cl lk fs ch R0 R td T i X []) : To n cl0 cl lk fs ch R0 R (td + 1) T :=
  ⟨h.wa, h.pm, h.rk, h.pre, h.tl, fun k hk e he hq => (h.qt k hk e he hq).resolve_right (by simp), h.qb, fun x hx => (fmem_take h.tl).2 (.inl (h.tt x hx)), h.der⟩
/-- the clause that hears it -/
theorem Tl.at' {a : Nat} (h : Tl n cl0 cl lk fs ch R0 R td T i X (a :: Y)) : 2 ≤ (lts cl (a / 2)).length ∧ (lts cl (a / 2)).getD (a % 2) 0 = -(R.getD td 0) ∧ i < n ∧ a / 2 < cl.length ∧ 2 ≤ a ∧ a < lk.length := by
  obtain ⟨h1, h2, h3, h4, h5, h6, h7⟩ := h.wa.link (i := i) (a := a) (by rw [h.ec]; simp)
  exact ⟨h1, idx_inj (h.wa.lit _ _ h7).1 (fmd_neg (h.rk.f _ (getD_mem0 h.tl)).1) (by rw [h2, h.hi]), h3, h4, h5, h6⟩
theorem Tl.next {a : Nat} (h : Tl n cl0 cl lk fs ch R0 R td T i X (a :: Y)) : lk[a]? = some (Y.headD 0, X.getLastD 0) := (h.wa.c.at' h.ec).1
theorem Tl.stay {a : Nat} (h : Tl n cl0 cl lk fs ch R0 R td T i X (a :: Y)) (ho : (lts cl (a / 2)).getD (1 - a % 2) 0 ∈ R) : Tl n cl0 cl lk fs ch R0 R td T i (X ++ [a]) Y := by
  refine ⟨h.wa, h.pm, h.rk, h.pre, h.tl, h.hi, by rw [h.ec]; simp, fun k hk e he hq => ?_, h.qb, h.tt, h.der⟩
  rcases h.qt k hk e he hq with b | b
  · exact .inl b
  · rcases List.mem_cons.1 b with c | c
    · subst c
      rw [show (2 * k + e) / 2 = k by omega, show (2 * k + e) % 2 = e by omega] at ho
      exact .inl ho
    · exact .inr c
theorem ftake_app {R S : List Int} {m : Nat} (h : m ≤ R.length) : (R ++ S).take m = R.take m := List.take_append_of_le_length h
theorem Tl.put {l : Int} (h : Tl n cl0 cl lk fs ch R0 R td T i X Y) (h1 : l ∉ R) (h2 : -l ∉ R) (hf : fmd l = true) (hi : idx l < n) (hd : Der (cssOf cl0) R0 l) : Tl n cl0 cl lk fs ch R0 (R ++ [l]) td T i X Y := by
  have ht := h.tl
  have e1 : (R ++ [l]).take (td + 1) = R.take (td + 1) := ftake_app h.tl
  have e2 : (R ++ [l]).take td = R.take td := ftake_app (by omega)
  have e3 : (R ++ [l]).getD td 0 = R.getD td 0 := by rw [List.getD_eq_getElem?_getD, List.getD_eq_getElem?_getD, List.getElem?_append_left ht]
  refine ⟨h.wa, h.pm, h.rk.put h1 h2 hf hi, h.pre.trans (List.prefix_append _ _), by simp; omega, by rw [e3]; exact h.hi, h.ec, fun k hk e he hq => ?_, h.qb, by rw [e2]; exact h.tt, fun x hx => ?_⟩
  · rw [e1] at hq
    rcases h.qt k hk e he hq with a | a
    · exact .inl (List.mem_append.2 (.inl a))
    · exact .inr a
  · rcases List.mem_append.1 hx with a | a
    · exact h.der x a
    · rw [show x = l by simpa using a]; exact hd
theorem opp_in {R : List Int} (h : Con R) {x : Int} (hx : -x ∈ R) : x ∉ R := fun hx2 => h x hx2 hx
/-- where the others are false -/
theorem Tl.other {a : Nat} (h : Tl n cl0 cl lk fs ch R0 R td T i X (a :: Y)) (hf : ∀ p, 2 ≤ p → p < (lts cl (a / 2)).length → -((lts cl (a / 2)).getD p 0) ∈ R) : ∀ m ∈ lts cl (a / 2), m ≠ (lts cl (a / 2)).getD (1 - a % 2) 0 → -m ∈ R := by
  obtain ⟨h1, h2, h3, h4, h5, h6⟩ := h.at'
  intro m hm hne
  obtain ⟨q, hq, e⟩ := List.getElem_of_mem hm
  have e : (lts cl (a / 2)).getD q 0 = m := by rw [List.getD_eq_getElem?_getD, List.getElem?_eq_getElem hq]; exact e
  by_cases q2 : 2 ≤ q
  · rw [← e]; exact hf q q2 hq
  · by_cases qe : q = a % 2
    · rw [← e, qe, h2, Int.neg_neg]; exact getD_mem0 h.tl
    · exact absurd (by rw [← e, show q = 1 - a % 2 by omega]) hne
theorem Tl.unit {a : Nat} (h : Tl n cl0 cl lk fs ch R0 R td T i X (a :: Y)) (hf : ∀ p, 2 ≤ p → p < (lts cl (a / 2)).length → -((lts cl (a / 2)).getD p 0) ∈ R) (h1 : (lts cl (a / 2)).getD (1 - a % 2) 0 ∉ R) (h2 : -((lts cl (a / 2)).getD (1 - a % 2) 0) ∉ R) :
    Tl n cl0 cl lk fs ch R0 (R ++ [(lts cl (a / 2)).getD (1 - a % 2) 0]) td T i (X ++ [a]) Y := by
  obtain ⟨l1, l2, l3, l4, l5, l6⟩ := h.at'
  have hm : (lts cl (a / 2)).getD (1 - a % 2) 0 ∈ lts cl (a / 2) := getD_mem0 (by omega)
  have hl := h.wa.lit _ _ hm
  have hc : lts cl (a / 2) ∈ cssOf cl := mem_cssOf.2 ⟨(by intro e; rw [e] at l1; simp at l1), _, l4, rfl⟩
  obtain ⟨c', g1, g2⟩ := h.pm.symm.css _ hc
  have hd : Der (cssOf cl0) R0 ((lts cl (a / 2)).getD (1 - a % 2) 0) := .unit g1 ((g2 _).1 hm) fun m hm2 hne => h.der _ (h.other hf m ((g2 m).2 hm2) hne)
  exact (h.put h1 h2 hl.1 hl.2 hd).stay (by simp)
theorem Tl.cla {a : Nat} (h : Tl n cl0 cl lk fs ch R0 R td T i X (a :: Y)) (hf : ∀ p, 2 ≤ p → p < (lts cl (a / 2)).length → -((lts cl (a / 2)).getD p 0) ∈ R) (h2 : -((lts cl (a / 2)).getD (1 - a % 2) 0) ∈ R) : Cla (cssOf cl0) R0 := by
  obtain ⟨l1, l2, l3, l4, l5, l6⟩ := h.at'
  have hc : lts cl (a / 2) ∈ cssOf cl := mem_cssOf.2 ⟨(by intro e; rw [e] at l1; simp at l1), _, l4, rfl⟩
  obtain ⟨c', g1, g2⟩ := h.pm.symm.css _ hc
  refine .inr ⟨c', g1, fun m hm => h.der _ ?_⟩
  by_cases e : m = (lts cl (a / 2)).getD (1 - a % 2) 0
  · rw [e]; exact h2
  · exact h.other hf m ((g2 m).2 hm) e
theorem Tl.move {a p j fr : Nat} (h : Tl n cl0 cl lk fs ch R0 R td T i X (a :: Y)) (hp2 : 2 ≤ p) (hp : p < (lts cl (a / 2)).length) (hn : -((lts cl (a / 2)).getD p 0) ∉ R) (hj : idx ((lts cl (a / 2)).getD p 0) = (j : Int)) :
    Tl n cl0 (cl.set (a / 2) (mvd (lts cl (a / 2)) (a % 2) p, fr)) (enL (skL lk a) ((ch j).headD 0) a) ((skF lk fs a i).set j a) (fupd (fupd ch i (X ++ Y)) j (a :: ch j)) R0 R td T i X Y := by
  obtain ⟨l1, l2, l3, l4, l5, l6⟩ := h.at'
  obtain ⟨w1, w2⟩ := h.wa.move (k := a / 2) (e := a % 2) (p := p) (a := a) (fr := fr) (j := j) (by omega) (by omega) h.ec hp2 hp hj
  have hpm : Fpm cl (cl.set (a / 2) (mvd (lts cl (a / 2)) (a % 2) p, fr)) := Fpm.set (mvd_perm (by omega) hp)
  have tr : ∀ x ∈ R.take (td + 1), x ∈ R := fun x hx => List.mem_of_mem_take hx
  have tT : ∀ x ∈ T, x ∈ R := fun x hx => List.mem_of_mem_take (h.tt x hx)
  have hm := getD_mem0 hp
  -- what the new clause's watches say
  have key : ∀ F S : List Int, (∀ x ∈ F, x ∈ R) → ∀ e, e < 2 → -((mvd (lts cl (a / 2)) (a % 2) p).getD e 0) ∈ F → e ≠ a % 2 ∧ -((lts cl (a / 2)).getD e 0) ∈ F := fun F S hF e he hq => by
    by_cases ee : e = a % 2
    · subst ee
      rw [mvd_e (by omega) (by omega)] at hq
      exact absurd (hF _ hq) hn
    · rw [mvd_o ee (by omega)] at hq; exact ⟨ee, hq⟩
  refine ⟨w1, h.pm.trans hpm, h.rk, h.pre, h.tl, h.hi, w2, fun k hk e he hq => ?_, fun k hk e he hq => ?_, h.tt, h.der⟩
  · by_cases ek : k = a / 2
    · subst ek
      rw [lts_set_self l4] at hq ⊢
      obtain ⟨ee, hq2⟩ := key _ [] tr e he hq
      -- the other watch is false: then the link's own literal stood in the row
      rcases h.qt _ l1 e he hq2 with b | b
      · rw [show 1 - e = a % 2 by omega, l2] at b
        exact absurd (getD_mem0 h.tl) (opp_in h.rk.con b)
      · rcases List.mem_cons.1 b with c | c
        · omega
        · exact .inr c
    · rw [lts_set_ne ek] at hk hq ⊢
      rcases h.qt k hk e he hq with b | b
      · exact .inl b
      · rcases List.mem_cons.1 b with c | c
        · omega
        · exact .inr c
  · by_cases ek : k = a / 2
    · subst ek
      rw [lts_set_self l4] at hq ⊢
      obtain ⟨ee, hq2⟩ := key _ [] tT e he hq
      have := h.qb _ l1 e he hq2
      rw [show 1 - e = a % 2 by omega, l2] at this
      exact absurd (getD_mem0 h.tl) (opp_in h.rk.con (tT _ this))
    · rw [lts_set_ne ek] at hk hq ⊢
      exact h.qb k hk e he hq
/-- all told: calm -/
theorem To.calm (h : To n cl0 cl lk fs ch R0 R td T) (he : R.length ≤ td) (h1 : ∀ k l, lts cl k = [l] → l ∈ R) : Calm (cssOf cl) R := by
  intro j hj
  have hc := getD_in hj
  obtain ⟨h0, k, hk, e⟩ := mem_cssOf.1 hc
  rw [← e] at h0 ⊢
  have et : R.take td = R := List.take_of_length_le he
  have hq := h.qt
  rw [et] at hq
  by_cases h2 : 2 ≤ (lts cl k).length
  · have m0 : (lts cl k).getD 0 0 ∈ lts cl k := getD_mem0 (by omega)
    have m1 : (lts cl k).getD 1 0 ∈ lts cl k := getD_mem0 (by omega)
    by_cases f0 : -((lts cl k).getD 0 0) ∈ R
    · exact kd_true m1 (hq k h2 0 (by omega) f0)
    · by_cases f1 : -((lts cl k).getD 1 0) ∈ R
      · exact kd_true m0 (hq k h2 1 (by omega) f1)
      · exact kd_two m0 m1 (fun e => by have := getD_inj0 (h.wa.nd k) (by omega) (by omega) e; omega) f0 f1
  · match hh : lts cl k, h0, h2 with
    | [], h0, _ => exact absurd rfl h0
    | [l], _, _ => exact kd_true (by simp) (h1 k l hh)
    | _ :: _ :: _, _, h2 => simp at h2
end
end Go.Proofs.YtjajafeaengnjaaGreatDoor
set_option linter.unusedSimpArgs false
set_option linter.unusedVariables false
namespace Go.Proofs.YtjajafeaengnjaaGreatDoor

section
variable {n : Nat} {cl : Fcl} {lk : List (Nat × Nat)} {fs : List Nat} {ch : Nat → List Nat}
/-- room for more variables -/
theorem Cn.grow (h : Cn n lk fs ch) {m : Nat} (ho : ∀ i, n ≤ i → ch i = []) : Cn (n + m) lk (fs ++ List.replicate m 0) ch := by
  refine ⟨by simp [h.len], fun i hi => ?_, h.sg, h.nd, h.dj, h.pos⟩
  have := h.len
  by_cases e : i < n
  · rw [List.getElem?_append_left (by omega)]; exact h.hd i e
  · rw [List.getElem?_append_right (by omega), ho i (by omega), List.getElem?_replicate, if_pos (by omega)]; rfl
theorem Wa.out (h : Wa n cl lk fs ch) {i : Nat} (hi : n ≤ i) : ch i = [] := by
  refine List.eq_nil_iff_forall_not_mem.2 fun a ha => ?_
  have := (h.link ha).2.2.1
  omega
theorem Wa.grow (h : Wa n cl lk fs ch) {m : Nat} (hm : m % 2 = 0) (hn : n + m ≤ 2097152) : Wa (n + m) cl lk (fs ++ List.replicate m 0) ch :=
  ⟨h.c.grow fun i hi => h.out hi, h.two, h.mem, fun k l hl => ⟨(h.lit k l hl).1, by have := (h.lit k l hl).2; omega⟩, h.nd, h.zero, by have := h.ev; omega, hn⟩
theorem Frk.grow {R : List Int} (h : Frk n R) (m : Nat) : Frk (n + m) R := ⟨h.nd, h.con, fun x hx => ⟨(h.f x hx).1, by have := (h.f x hx).2; omega⟩⟩
theorem inLs_grow {R : List Int} (h : Frk n R) {m : Nat} (hn : n + m ≤ 2097152) : inLs (n + m) R = inLs n R ++ List.replicate m false := by
  refine List.ext_getElem? fun i => ?_
  by_cases e : i < n
  · rw [List.getElem?_append_left (by rw [inLs_len]; exact e)]
    simp [inLs, e, show i < n + m by omega]
  · rw [List.getElem?_append_right (by rw [inLs_len]; omega), inLs_len, List.getElem?_replicate]
    by_cases e2 : i < n + m
    · rw [if_pos (by omega)]
      have hno : litAt (i : Int) ∉ R := fun hm => by
        have h1 := h.f _ hm
        obtain ⟨l, hl⟩ : ∃ l, l = litAt (i : Int) := ⟨_, rfl⟩
        rw [← hl] at h1
        have h3 := litAt_idx h1.1
        have h2 := idx_range h1.1
        have : (idx l).toNat = i := litAt_inj (by omega) (by omega) (by rw [show ((idx l).toNat : Int) = idx l by omega, h3, hl])
        omega
      simp [inLs, e2, hno]
    · rw [if_neg (by omega), List.getElem?_eq_none (by rw [inLs_len]; omega)]
theorem lts_push (cl : Fcl) (k : Nat) : lts (cl ++ [([], 0)]) k = lts cl k := by
  unfold lts
  rw [List.getD_eq_getElem?_getD, List.getD_eq_getElem?_getD]
  by_cases e : k < cl.length
  · rw [List.getElem?_append_left e]
  · rw [List.getElem?_append_right (by omega), List.getElem?_eq_none (l := cl) (by omega)]
    by_cases e2 : k - cl.length = 0
    · rw [e2]; rfl
    · rw [List.getElem?_eq_none (by simp; omega)]
theorem cssOf_push (cl : Fcl) : cssOf (cl ++ [([], 0)]) = cssOf cl := by simp [cssOf]
theorem Sg.push {x : List (Nat × Nat)} {q : Nat} : ∀ {L : List Nat} {p : Nat}, Sg lk p L q → Sg (lk ++ x) p L q
  | [], _, _ => trivial
  | a :: L, p, h => ⟨by rw [List.getElem?_append_left (List.getElem?_eq_some_iff.1 h.1).1]; exact h.1, Sg.push h.2⟩
theorem Wa.push (h : Wa n cl lk fs ch) : Wa n (cl ++ [([], 0)]) (lk ++ [(0, 0), (0, 0)]) fs ch :=
  ⟨⟨h.c.len, h.c.hd, fun i => (h.c.sg i).push, h.c.nd, h.c.dj, h.c.pos⟩, by have := h.two; simp; omega, fun i a => by rw [lts_push]; exact h.mem i a, fun k => by rw [lts_push]; exact h.lit k, fun k => by rw [lts_push]; exact h.nd k, by rw [lts_push]; exact h.zero, h.ev, h.hn⟩
/-- a clause that watches nothing comes in -/
theorem Wa.add0 (h : Wa n cl lk fs ch) {k fr : Nat} {c : List Int} (hk : 0 < k) (hkl : k < cl.length) (h0 : lts cl k = []) (hc : c.length < 2) (hl : ∀ l ∈ c, fmd l = true ∧ idx l < n) : Wa n (cl.set k (c, fr)) lk fs ch := by
  refine ⟨h.c, by simp; exact h.two, fun i a => ?_, fun j l hl2 => ?_, fun j => ?_, by rw [lts_set_ne (by omega)]; exact h.zero, h.ev, h.hn⟩
  · by_cases e : a / 2 = k
    · have := h.mem i a
      rw [e, h0] at this
      rw [e, lts_set_self hkl, this]
      simp; omega
    · rw [lts_set_ne e]; exact h.mem i a
  · by_cases e : j = k
    · subst e; rw [lts_set_self hkl] at hl2; exact hl l hl2
    · rw [lts_set_ne e] at hl2; exact h.lit j l hl2
  · by_cases e : j = k
    · subst e; rw [lts_set_self hkl]
      match c, hc with
      | [], _ => simp
      | [l], _ => simp
      | _ :: _ :: _, hc => simp at hc; omega
    · rw [lts_set_ne e]; exact h.nd j
/-- one that watches its first two comes in -/
theorem Wa.add2 (h : Wa n cl lk fs ch) {k fr i0 i1 : Nat} {c : List Int} (hk : 0 < k) (hkl : k < cl.length) (h0 : lts cl k = []) (hc : 2 ≤ c.length) (hl : ∀ l ∈ c, fmd l = true ∧ idx l < n) (hnd : c.Nodup) (e0 : idx (c.getD 0 0) = (i0 : Int)) (e1 : idx (c.getD 1 0) = (i1 : Int)) :
    Wa n (cl.set k (c, fr)) (enL (enL lk ((ch i0).headD 0) (2 * k)) ((ch i1).headD 0) (2 * k + 1)) ((fs.set i0 (2 * k)).set i1 (2 * k + 1)) (fupd (fupd ch i0 (2 * k :: ch i0)) i1 ((2 * k + 1) :: ch i1)) ∧ i0 ≠ i1 ∧ i0 < n ∧ i1 < n := by
  have m0 : c.getD 0 0 ∈ c := getD_mem0 (by omega)
  have m1 : c.getD 1 0 ∈ c := getD_mem0 (by omega)
  have n0 : i0 < n := by have := (hl _ m0).2; omega
  have n1 : i1 < n := by have := (hl _ m1).2; omega
  have hne : i0 ≠ i1 := fun e => by
    have := idx_inj (hl _ m0).1 (hl _ m1).1 (by rw [e0, e1, e])
    have := getD_inj0 hnd (by omega) (by omega) this
    omega
  have hno : ∀ a, a / 2 = k → ∀ j, a ∉ ch j := fun a e j ha => by
    have := (h.link ha).1
    rw [e, h0] at this
    simp at this
  have htw := h.two
  have c1 := h.c.enlist (i := i0) (a := 2 * k) n0 (hno _ (by omega)) (by omega) (by omega)
  have c2 := c1.enlist (i := i1) (a := 2 * k + 1) n1 (fun j ha => by
    by_cases e : j = i0
    · subst e; rw [fupd_self] at ha
      rcases List.mem_cons.1 ha with q | q
      · omega
      · exact hno _ (by omega) _ q
    · rw [fupd_ne _ _ e] at ha; exact hno _ (by omega) _ ha) (by omega) (by rw [enL_len]; omega)
  rw [fupd_ne _ _ (fun e => hne e.symm)] at c2
  refine ⟨⟨c2, by rw [enL_len, enL_len]; simp; exact h.two, fun i a => ?_, fun j l hl2 => ?_, fun j => ?_, by rw [lts_set_ne (by omega)]; exact h.zero, h.ev, h.hn⟩, hne, n0, n1⟩
  · have hmem : a ∈ fupd (fupd ch i0 (2 * k :: ch i0)) i1 ((2 * k + 1) :: ch i1) i ↔ (a = 2 * k ∧ i = i0) ∨ (a = 2 * k + 1 ∧ i = i1) ∨ a ∈ ch i := by
      by_cases e : i = i1
      · subst e; rw [fupd_self, List.mem_cons]
        constructor
        · rintro (q | q)
          · exact .inr (.inl ⟨q, rfl⟩)
          · exact .inr (.inr q)
        · rintro (⟨_, q⟩ | ⟨q, _⟩ | q)
          · exact absurd q.symm hne
          · exact .inl q
          · exact .inr q
      · rw [fupd_ne _ _ e]
        by_cases e2 : i = i0
        · subst e2; rw [fupd_self, List.mem_cons]; simp [e]
        · rw [fupd_ne _ _ e2]; simp [e, e2]
    rw [hmem]
    by_cases e : a / 2 = k
    · rw [e, lts_set_self hkl]
      have hx := hno a e i
      have : a % 2 = 0 ∨ a % 2 = 1 := by omega
      rcases this with q | q
      · show _ ↔ 2 ≤ c.length ∧ idx (c.getD (a % 2) 0) = (i : Int)
        rw [q, e0]
        constructor
        · rintro (⟨_, b⟩ | ⟨b, _⟩ | b)
          · exact ⟨hc, by omega⟩
          · omega
          · exact absurd b hx
        · rintro ⟨_, b⟩; exact .inl ⟨by omega, by omega⟩
      · show _ ↔ 2 ≤ c.length ∧ idx (c.getD (a % 2) 0) = (i : Int)
        rw [q, e1]
        constructor
        · rintro (⟨b, _⟩ | ⟨_, b⟩ | b)
          · omega
          · exact ⟨hc, by omega⟩
          · exact absurd b hx
        · rintro ⟨_, b⟩; exact .inr (.inl ⟨by omega, by omega⟩)
    · rw [lts_set_ne e, ← h.mem i a]
      constructor
      · rintro (⟨b, _⟩ | ⟨b, _⟩ | b)
        · omega
        · omega
        · exact b
      · exact fun b => .inr (.inr b)
  · by_cases e : j = k
    · subst e; rw [lts_set_self hkl] at hl2; exact hl l hl2
    · rw [lts_set_ne e] at hl2; exact h.lit j l hl2
  · by_cases e : j = k
    · subst e; rw [lts_set_self hkl]; exact hnd
    · rw [lts_set_ne e]; exact h.nd j
/-- one that watches goes -/
theorem Wa.gone (h : Wa n cl lk fs ch) {k : Nat} (hc : 2 ≤ (lts cl k).length) :
    ∃ (i0 i1 : Nat) (ch' : Nat → List Nat), i0 < n ∧ i1 < n ∧ idx ((lts cl k).getD 0 0) = (i0 : Int) ∧ idx ((lts cl k).getD 1 0) = (i1 : Int) ∧ k < cl.length ∧ 0 < k ∧
      (∃ q, lk[2 * k]? = some q ∧ q.1 < lk.length ∧ q.2 < lk.length) ∧ (∃ q, (skL lk (2 * k))[2 * k + 1]? = some q ∧ q.1 < lk.length ∧ q.2 < lk.length) ∧
      Wa n (cl.set k ([], 0)) (skL (skL lk (2 * k)) (2 * k + 1)) (skF (skL lk (2 * k)) (skF lk fs (2 * k) i0) (2 * k + 1) i1) ch' := by
  have hne : lts cl k ≠ [] := by intro e; rw [e] at hc; simp at hc
  have hkl := lts_in hne
  have hk0 : 0 < k := by
    rcases Nat.eq_zero_or_pos k with e | e
    · subst e; exact absurd h.zero hne
    · exact e
  have m0 : (lts cl k).getD 0 0 ∈ lts cl k := getD_mem0 (by omega)
  have m1 : (lts cl k).getD 1 0 ∈ lts cl k := getD_mem0 (by omega)
  have r0 := idx_range (h.lit _ _ m0).1
  have r1 := idx_range (h.lit _ _ m1).1
  have n0 := (h.lit _ _ m0).2
  have n1 := (h.lit _ _ m1).2
  obtain ⟨i0, e0⟩ : ∃ i0 : Nat, idx ((lts cl k).getD 0 0) = (i0 : Int) := ⟨(idx ((lts cl k).getD 0 0)).toNat, by omega⟩
  obtain ⟨i1, e1⟩ : ∃ i1 : Nat, idx ((lts cl k).getD 1 0) = (i1 : Int) := ⟨(idx ((lts cl k).getD 1 0)).toNat, by omega⟩
  have hij : i0 ≠ i1 := fun e => by
    have := idx_inj (h.lit _ _ m0).1 (h.lit _ _ m1).1 (by rw [e0, e1, e])
    have := getD_inj0 (h.nd k) (by omega) (by omega) this
    omega
  have a0 : 2 * k ∈ ch i0 := (h.mem _ _).2 (by rw [show 2 * k / 2 = k by omega, show 2 * k % 2 = 0 by omega]; exact ⟨hc, e0⟩)
  have a1 : 2 * k + 1 ∈ ch i1 := (h.mem _ _).2 (by rw [show (2 * k + 1) / 2 = k by omega, show (2 * k + 1) % 2 = 1 by omega]; exact ⟨hc, e1⟩)
  obtain ⟨X, Y, eX⟩ := List.append_of_mem a0
  obtain ⟨Z, U, eZ⟩ := List.append_of_mem a1
  have c1 := h.c.strike (i := i0) (a := 2 * k) (by omega) eX
  have eZ' : fupd ch i0 (X ++ Y) i1 = Z ++ (2 * k + 1) :: U := by rw [fupd_ne _ _ (fun e => hij e.symm)]; exact eZ
  have c2 := c1.strike (i := i1) (a := 2 * k + 1) (by omega) eZ'
  have g0 := (h.c.at' eX).1
  have g1 := (c1.at' eZ').1
  have inb : ∀ {lk : List (Nat × Nat)} {fs : List Nat} {ch : Nat → List Nat} {i a : Nat} {X Y : List Nat}, Cn n lk fs ch → ch i = X ++ a :: Y → 0 < lk.length → Y.headD 0 < lk.length ∧ X.getLastD 0 < lk.length := fun {lk fs ch i a X Y} hc he hpos => by
    have hs := (hc.sg i).lt
    rw [he] at hs
    constructor
    · by_cases e : Y.headD 0 = 0
      · omega
      · exact hs _ (List.mem_append.2 (.inr (List.mem_cons_of_mem _ (headD_mem e))))
    · by_cases e : X.getLastD 0 = 0
      · omega
      · exact hs _ (List.mem_append.2 (.inl (lastD_mem e)))
  have htw := h.two
  have b0 := inb h.c eX (by omega)
  have b1 := inb c1 eZ' (by rw [skL_len]; omega)
  rw [skL_len] at b1
  refine ⟨i0, i1, _, by omega, by omega, e0, e1, hkl, hk0, ⟨_, g0, b0⟩, ⟨_, g1, b1⟩, c2, by rw [skL_len, skL_len]; simp; exact h.two, fun i a => ?_, fun j l hl2 => ?_, fun j => ?_, by rw [lts_set_ne (by omega)]; exact h.zero, h.ev, h.hn⟩
  · have nd0 := h.c.nd i0
    rw [eX] at nd0
    have nd1 := h.c.nd i1
    rw [eZ] at nd1
    have hmem : a ∈ fupd (fupd ch i0 (X ++ Y)) i1 (Z ++ U) i ↔ a ∈ ch i ∧ a ≠ 2 * k ∧ a ≠ 2 * k + 1 := by
      have q0 : ∀ {x : Nat}, x ∈ X ++ Y ↔ x ∈ ch i0 ∧ x ≠ 2 * k := fun {x} => by
        obtain ⟨p1, p2, p3⟩ := List.nodup_append.1 nd0
        rw [eX]
        simp only [List.mem_append, List.mem_cons]
        constructor
        · rintro (b | b)
          · exact ⟨.inl b, fun e => p3 x b (2 * k) (by simp) e⟩
          · exact ⟨.inr (.inr b), fun e => (List.nodup_cons.1 p2).1 (by rw [← e]; exact b)⟩
        · rintro ⟨b | b | b, e⟩
          · exact .inl b
          · exact absurd b e
          · exact .inr b
      have q1 : ∀ {x : Nat}, x ∈ Z ++ U ↔ x ∈ ch i1 ∧ x ≠ 2 * k + 1 := fun {x} => by
        obtain ⟨p1, p2, p3⟩ := List.nodup_append.1 nd1
        rw [eZ]
        simp only [List.mem_append, List.mem_cons]
        constructor
        · rintro (b | b)
          · exact ⟨.inl b, fun e => p3 x b (2 * k + 1) (by simp) e⟩
          · exact ⟨.inr (.inr b), fun e => (List.nodup_cons.1 p2).1 (by rw [← e]; exact b)⟩
        · rintro ⟨b | b | b, e⟩
          · exact .inl b
          · exact absurd b e
          · exact .inr b
      by_cases e : i = i1
      · subst e; rw [fupd_self, q1]
        constructor
        · rintro ⟨b, b2⟩; exact ⟨b, fun e => hij (h.c.dj i0 i (2 * k) a0 (by rw [← e]; exact b)), b2⟩
        · rintro ⟨b, _, b2⟩; exact ⟨b, b2⟩
      · rw [fupd_ne _ _ e]
        by_cases e2 : i = i0
        · subst e2; rw [fupd_self, q0]
          constructor
          · rintro ⟨b, b2⟩; exact ⟨b, b2, fun e3 => e (h.c.dj i i1 (2 * k + 1) (by rw [← e3]; exact b) a1)⟩
          · rintro ⟨b, b2, _⟩; exact ⟨b, b2⟩
        · rw [fupd_ne _ _ e2]
          constructor
          · exact fun b => ⟨b, fun e3 => e2 (h.c.dj i i0 (2 * k) (by rw [← e3]; exact b) a0), fun e3 => e (h.c.dj i i1 (2 * k + 1) (by rw [← e3]; exact b) a1)⟩
          · exact fun b => b.1
    rw [hmem]
    by_cases e : a / 2 = k
    · rw [e, lts_set_self hkl]
      constructor
      · rintro ⟨_, b1, b2⟩; omega
      · rintro ⟨b, _⟩; simp at b
    · rw [lts_set_ne e, ← h.mem i a]
      constructor
      · exact fun b => b.1
      · exact fun b => ⟨b, by omega, by omega⟩
  · by_cases e : j = k
    · subst e; rw [lts_set_self hkl] at hl2; simp at hl2
    · rw [lts_set_ne e] at hl2; exact h.lit j l hl2
  · by_cases e : j = k
    · subst e; rw [lts_set_self hkl]; simp
    · rw [lts_set_ne e]; exact h.nd j
end
/-- at rest -/
structure Rs (n : Nat) (cl : Fcl) (lk : List (Nat × Nat)) (fs : List Nat) (ch : Nat → List Nat) (R : List Int) : Prop where
  wa : Wa n cl lk fs ch
  rk : Frk n R
  qt : Qt cl R R
  one : ∀ k l, lts cl k = [l] → l ∈ R
  der : ∀ x ∈ R, Der (cssOf cl) [] x
/-- what a tell leaves of the watches -/
structure Fbk (n : Nat) (cl0 cl : Fcl) (lk : List (Nat × Nat)) (fs : List Nat) (ch : Nat → List Nat) (T : List Int) : Prop where
  wa : Wa n cl lk fs ch
  pm : Fpm cl0 cl
  qb : Qt cl T T
section
variable {n : Nat} {cl0 cl : Fcl} {lk lk0 : List (Nat × Nat)} {fs fs0 : List Nat} {ch ch0 : Nat → List Nat} {R0 R T G : List Int} {td i : Nat} {X Y : List Nat}
theorem To.bk (h : To n cl0 cl lk fs ch R0 R td T) : Fbk n cl0 cl lk fs ch T := ⟨h.wa, h.pm, h.qb⟩
theorem Tl.bk (h : Tl n cl0 cl lk fs ch R0 R td T i X Y) : Fbk n cl0 cl lk fs ch T := ⟨h.wa, h.pm, h.qb⟩
theorem one_pm (hp : Fpm cl0 cl) {k : Nat} {l : Int} (h : lts cl k = [l]) : lts cl0 k = [l] := by
  have := hp.2 k
  rw [h] at this
  exact (List.perm_singleton.1 this.symm)
theorem Der.pm (hp : Fpm cl0 cl) {L : List Int} {x : Int} (h : Der (cssOf cl0) L x) : Der (cssOf cl) L x := h.mono hp.css fun x hx => .fact hx
theorem Fbk.rest (h : Fbk n cl0 cl lk fs ch T) (h0 : Rs n cl0 lk0 fs0 ch0 T) : Rs n cl lk fs ch T :=
  ⟨h.wa, h0.rk, h.qb, fun k l e => h0.one k l (one_pm h.pm e), fun x hx => (h0.der x hx).pm h.pm⟩
theorem Rs.to (h : Rs n cl lk fs ch R) (hk : Frk n (R ++ G)) : To n cl cl lk fs ch (R ++ G) (R ++ G) R.length R := by
  have e : (R ++ G).take R.length = R := by simp
  exact ⟨h.wa, .refl _, hk, List.prefix_refl _, by simp, by rw [e]; exact fun k hk e he hq => List.mem_append.2 (.inl (h.qt k hk e he hq)), h.qt, by rw [e]; exact fun x hx => hx, fun x hx => .fact hx⟩
theorem To.rest (h : To n cl0 cl lk fs ch R0 R td T) (he : R.length ≤ td) (h1 : ∀ k l, lts cl0 k = [l] → l ∈ R0) (h2 : ∀ x ∈ R0, Der (cssOf cl0) [] x) : Rs n cl lk fs ch R := by
  have et : R.take td = R := List.take_of_length_le he
  have hq := h.qt
  rw [et] at hq
  exact ⟨h.wa, h.rk, hq, fun k l e => h.pre.subset (h1 k l (one_pm h.pm e)), fun x hx => ((h.der x hx).trans h2).pm h.pm⟩
theorem Rs.calm (h : Rs n cl lk fs ch R) : Calm (cssOf cl) R := by
  have := h.to (G := []) (by simpa using h.rk)
  have h2 := To.calm this (by simp) (by simpa using h.one)
  simpa using h2
theorem Rs.clos (h : Rs n cl lk fs ch R) : (∀ x, x ∈ R ↔ Der (cssOf cl) [] x) ∧ ¬ Cla (cssOf cl) [] := by
  obtain ⟨h1, h2⟩ := calm_der h.rk.con h.calm
  exact ⟨fun x => ⟨h.der x, fun hx => h1 x (hx.trans (by simp))⟩, fun hx => h2 (hx.trans (by simp))⟩
/-- all literals of the clauses that are there lie below n -/
theorem Wa.css (h : Wa n cl lk fs ch) {c : List Int} (hc : c ∈ cssOf cl) : ∀ l ∈ c, fmd l = true ∧ idx l < n := by
  obtain ⟨_, k, _, e⟩ := mem_cssOf.1 hc
  subst e; exact h.lit k
theorem idx_neg_out {l : Int} {n : Nat} (hf : fmd l = true) (hev : n % 2 = 0) (h : (n : Int) ≤ idx l) : (n : Int) ≤ idx (-l) := by
  have h0 := fmd_range hf
  by_cases hs : 0 < l
  · rw [(there_neg (fmd_neg hf) (by omega)).1]; rw [(there_pos hf hs).1] at h; omega
  · rw [(there_pos (fmd_neg hf) (by omega)).1]; rw [(there_neg hf (by omega)).1] at h; omega
/-- calm: then the opposites of c clash with nothing -/
theorem Calm.fol {c : List Int} (hw : Wa n cl lk fs ch) (hr : Frk n R) (hc : Calm (cssOf cl) R) (hs : ∀ l ∈ c, fmd l = true) (ht : ∀ l ∈ c, -l ∉ c) (hin : ∀ l ∈ c, idx l < n → -l ∈ R) : ¬ Cla (cssOf cl) (opp c) := by
  have hcalm : Calm (cssOf cl) (R ++ opp (c.filter fun l => decide ((n : Int) ≤ idx l))) := by
    intro j hj
    rw [← hc j hj]
    refine (kd_congr fun m hm => ?_).symm
    have h1 := hw.css (getD_in hj) m hm
    have no : ∀ x : Int, fmd x = true → idx x < n → x ∉ opp (c.filter fun l => decide ((n : Int) ≤ idx l)) := fun x fx hx hxm => by
      rw [mem_opp, List.mem_filter, decide_eq_true_eq] at hxm
      have := idx_neg_out (hs _ hxm.1) hw.ev hxm.2
      rw [Int.neg_neg] at this
      omega
    have h2 : idx (-m) < n := by
      refine Classical.byContradiction fun hq => ?_
      have := idx_neg_out (fmd_neg h1.1) hw.ev (by omega)
      rw [Int.neg_neg] at this
      omega
    constructor
    · rw [List.mem_append]; exact ⟨.inl, fun q => q.resolve_right (no m h1.1 h1.2)⟩
    · rw [List.mem_append]; exact ⟨.inl, fun q => q.resolve_right (no (-m) (fmd_neg h1.1) h2)⟩
  have hcon : Con (R ++ opp (c.filter fun l => decide ((n : Int) ≤ idx l))) := by
    intro l hl hn
    have far : ∀ x : Int, x ∈ opp (c.filter fun l => decide ((n : Int) ≤ idx l)) → -x ∈ c ∧ (n : Int) ≤ idx x := fun x hx => by
      rw [mem_opp, List.mem_filter, decide_eq_true_eq] at hx
      have := idx_neg_out (hs _ hx.1) hw.ev hx.2
      rw [Int.neg_neg] at this
      exact ⟨hx.1, this⟩
    rcases List.mem_append.1 hl with a | a <;> rcases List.mem_append.1 hn with b | b
    · exact hr.con l a b
    · have h1 := (far _ b)
      have h2 := hr.f l a
      have := idx_neg_out (fmd_neg h2.1) hw.ev h1.2
      rw [Int.neg_neg] at this
      omega
    · have h1 := (far _ a)
      have h2 := hr.f _ b
      have h3 := hs _ h1.1
      have := idx_neg_out (by rw [← Int.neg_neg l]; exact fmd_neg h3) hw.ev h1.2
      omega
    · have h1 := (far _ a).1
      have h2 := (far _ b).1
      exact ht _ h1 h2
  refine fun hcl => (calm_der hcon hcalm).2 (hcl.trans fun x hx => .fact ?_)
  rw [mem_opp] at hx
  rw [List.mem_append]
  by_cases e : idx (-x) < n
  · left
    have := hin _ hx e
    rwa [Int.neg_neg] at this
  · right
    rw [mem_opp, List.mem_filter, decide_eq_true_eq]
    exact ⟨hx, by omega⟩
end
end Go.Proofs.YtjajafeaengnjaaGreatDoor
set_option linter.unusedSimpArgs false
set_option linter.unusedVariables false
namespace Go.Proofs.YtjajafeaengnjaaGreatDoor

section
variable {n : Nat} {cl : Fcl} {lk lk' : List (Nat × Nat)} {fs fs' : List Nat} {ch ch' : Nat → List Nat} {R c : List Int} {k fr m : Nat}
theorem mem_css_add (h0 : lts cl k = []) (hkl : k < cl.length) {d : List Int} : d ∈ cssOf (cl.set k (c, fr)) ↔ d ∈ cssOf cl ∨ (d = c ∧ c ≠ []) := by
  rw [mem_cssOf, mem_cssOf]
  constructor
  · rintro ⟨h1, j, hj, e⟩
    by_cases ej : j = k
    · subst ej; rw [lts_set_self hkl] at e; exact .inr ⟨e.symm, by rw [show c = d from e]; exact h1⟩
    · rw [lts_set_ne ej] at e; exact .inl ⟨h1, j, by simpa using hj, e⟩
  · rintro (⟨h1, j, hj, e⟩ | ⟨e, h1⟩)
    · have ej : j ≠ k := fun ej => h1 (by rw [← e, ej]; exact h0)
      exact ⟨h1, j, by simpa using hj, by rw [lts_set_ne ej]; exact e⟩
    · exact ⟨by rw [e]; exact h1, k, by simpa using hkl, by rw [lts_set_self hkl, e]⟩
theorem Der.add (h0 : lts cl k = []) (hkl : k < cl.length) {L : List Int} {x : Int} (h : Der (cssOf cl) L x) : Der (cssOf (cl.set k (c, fr))) L x :=
  h.mono (fun d hd => ⟨d, (mem_css_add h0 hkl).2 (.inl hd), fun _ => Iff.rfl⟩) fun x hx => .fact hx
/-- what is known ahead of the telling -/
def ahd (R c : List Int) (m : Nat) : List Int := if m = 1 ∧ c.getD 0 0 ∉ R then R ++ [c.getD 0 0] else R
/-- so many literals that aren't false stand ahead -/
structure Fwd (R c : List Int) (m : Nat) : Prop where
  two : m ≤ 2
  len : m ≤ c.length
  non : ∀ j, j < m → -(c.getD j 0) ∉ R
  rst : m < 2 → ∀ j, m ≤ j → j < c.length → -(c.getD j 0) ∈ R
theorem Fwd.none (h : Fwd R c 0) : ∀ l ∈ c, -l ∈ R := fun l hl => by
  obtain ⟨j, hj, e⟩ := List.getElem_of_mem hl
  have := h.rst (by omega) j (by omega) hj
  rw [List.getD_eq_getElem?_getD, List.getElem?_eq_getElem hj] at this
  rw [← e]; exact this
theorem Fwd.ones (h : Fwd R c 1) : ∀ l ∈ c, l ≠ c.getD 0 0 → -l ∈ R := fun l hl hne => by
  obtain ⟨j, hj, e⟩ := List.getElem_of_mem hl
  have e : c.getD j 0 = l := by rw [List.getD_eq_getElem?_getD, List.getElem?_eq_getElem hj]; exact e
  have hj0 : j ≠ 0 := fun ej => hne (by rw [← e, ej])
  have := h.rst (by omega) j (by omega) hj
  rw [e] at this; exact this
theorem Rs.enter (h : Rs n cl lk fs ch R) (h0 : lts cl k = []) (hkl : k < cl.length) (hw : Wa n (cl.set k (c, fr)) lk' fs' ch') (hm : Fwd R c m) (h1 : 1 ≤ m) :
    To n (cl.set k (c, fr)) (cl.set k (c, fr)) lk' fs' ch' (ahd R c m) (ahd R c m) R.length [] ∧ (∀ j l, lts (cl.set k (c, fr)) j = [l] → l ∈ ahd R c m) ∧ ∀ x ∈ ahd R c m, Der (cssOf (cl.set k (c, fr))) [] x := by
  have hlen := hm.len
  have m0 : c.getD 0 0 ∈ c := getD_mem0 (by omega)
  have hl0 := hw.lit k (c.getD 0 0) (by rw [lts_set_self hkl]; exact m0)
  have hcin : c ∈ cssOf (cl.set k (c, fr)) := (mem_css_add h0 hkl).2 (.inr ⟨rfl, by intro e; rw [e] at m0; simp at m0⟩)
  have hsub : ∀ x ∈ R, x ∈ ahd R c m := fun x hx => by
    unfold ahd; split
    · exact List.mem_append.2 (.inl hx)
    · exact hx
  have hin : m = 1 → c.getD 0 0 ∈ ahd R c m := fun e => by
    unfold ahd
    by_cases hc : c.getD 0 0 ∈ R
    · rw [if_neg (fun q => q.2 hc)]; exact hc
    · rw [if_pos ⟨e, hc⟩]; simp
  have hrk : Frk n (ahd R c m) := by
    unfold ahd; split
    · rename_i e; exact h.rk.put e.2 (hm.non 0 (by omega)) hl0.1 hl0.2
    · exact h.rk
  have htk : (ahd R c m).take R.length = R := by unfold ahd; split <;> simp
  refine ⟨⟨hw, .refl _, hrk, List.prefix_refl _, ?_, ?_, ?_, by simp, fun x hx => .fact hx⟩, fun j l e => ?_, fun x hx => ?_⟩
  · unfold ahd; split <;> simp
  · rw [htk]
    intro j hj e he hq
    by_cases ej : j = k
    · subst ej
      rw [lts_set_self hkl] at hj hq ⊢
      by_cases em : m = 2
      · exact absurd hq (hm.non e (by omega))
      · have em1 : m = 1 := by have := hm.two; omega
        by_cases ee : e = 0
        · exact absurd hq (hm.non e (by omega))
        · rw [show 1 - e = 0 by omega]; exact hin em1
    · rw [lts_set_ne ej] at hj hq ⊢
      exact hsub _ (h.qt j hj e he hq)
  · intro j hj e he hq; simp at hq
  · by_cases ej : j = k
    · subst ej
      rw [lts_set_self hkl] at e
      have e2 : c = [l] := e
      have em : m = 1 := by rw [e2] at hlen; simp at hlen; omega
      have := hin em
      rw [e2] at this ⊢
      simpa using this
    · rw [lts_set_ne ej] at e; exact hsub _ (h.one j l e)
  · have old : ∀ y ∈ R, Der (cssOf (cl.set k (c, fr))) [] y := fun y hy => (h.der y hy).add h0 hkl
    unfold ahd at hx
    split at hx
    · rename_i e
      rcases List.mem_append.1 hx with a | a
      · exact old x a
      · rw [show x = c.getD 0 0 by simpa using a]
        have hm1 := hm
        rw [e.1] at hm1
        exact .unit hcin m0 fun l hl hne => old _ (hm1.ones l hl hne)
    · exact old x hx
/-- all false: a clash -/
theorem Rs.fals (h : Rs n cl lk fs ch R) (h0 : lts cl k = []) (hkl : k < cl.length) (hm : ∀ l ∈ c, -l ∈ R) (A : List (List Int)) (hA : ∀ d ∈ cssOf cl, ∃ d' ∈ A, ∀ x, x ∈ d ↔ x ∈ d') (hc : ∃ d ∈ A, ∀ x, x ∈ d ↔ x ∈ c) : Cla A [] := by
  obtain ⟨d, hd, hx⟩ := hc
  exact .inr ⟨d, hd, fun l hl => (h.der _ (hm l ((hx l).1 hl))).mono hA (by simp)⟩
/-- a clause by which something is known -/
def Need (R c : List Int) : Prop := ∃ l ∈ c, l ∈ R ∧ ∀ m ∈ c, m ≠ l → -m ∈ R
theorem Need.congr {R c d : List Int} (h : ∀ x, x ∈ c ↔ x ∈ d) : Need R c ↔ Need R d := by
  constructor
  · rintro ⟨l, a, b, e⟩; exact ⟨l, (h l).1 a, b, fun m hm hne => e m ((h m).2 hm) hne⟩
  · rintro ⟨l, a, b, e⟩; exact ⟨l, (h l).2 a, b, fun m hm hne => e m ((h m).1 hm) hne⟩
theorem Rs.gone (h : Rs n cl lk fs ch R) (hw : Wa n (cl.set k ([], 0)) lk' fs' ch') (hkl : k < cl.length) (hn : ¬ Need R (lts cl k)) : Rs n (cl.set k ([], 0)) lk' fs' ch' R := by
  have hl : ∀ j, j ≠ k → lts (cl.set k ([], 0)) j = lts cl j := fun j hj => lts_set_ne hj
  have hs : lts (cl.set k ([], 0)) k = [] := lts_set_self hkl
  have hd : ∀ x, Der (cssOf cl) [] x → Der (cssOf (cl.set k ([], 0))) [] x := by
    intro x hx
    induction hx with
    | fact hh => simp at hh
    | @unit d l h1 h2 h3 ih =>
      obtain ⟨d0, j, hj, e⟩ := mem_cssOf.1 h1
      by_cases ej : j = k
      · subst ej
        exfalso
        refine hn ⟨l, by rw [e]; exact h2, (h.clos.1 l).2 (.unit h1 h2 h3), fun m hm hne => (h.clos.1 _).2 (h3 m (by rw [← e]; exact hm) hne)⟩
      · exact .unit (mem_cssOf.2 ⟨d0, j, by simpa using hj, by rw [hl j ej]; exact e⟩) h2 ih
  refine ⟨hw, h.rk, fun j hj e he hq => ?_, fun j l e => ?_, fun x hx => hd x (h.der x hx)⟩
  · by_cases ej : j = k
    · subst ej; rw [hs] at hj; simp at hj
    · rw [hl j ej] at hj hq ⊢; exact h.qt j hj e he hq
  · by_cases ej : j = k
    · subst ej; rw [hs] at e; simp at e
    · rw [hl j ej] at e; exact h.one j l e
/-- how many of them are false -/
def fls (R c : List Int) : Nat := (c.filter fun l => decide (-l ∈ R)).length
theorem filter_split {p : Int → Bool} : ∀ c : List Int, (c.filter p).length + (c.filter fun x => !p x).length = c.length
  | [] => rfl
  | a :: c => by
    have := filter_split (p := p) c
    cases h : p a <;> simp [List.filter_cons, h] <;> omega
theorem fls_need (hd : c.Nodup) (hc : Con R) (hk : kd R c = none) (h0 : c ≠ []) : fls R c + 1 = c.length ↔ Need R c := by
  have hsp := filter_split (p := fun l => decide (-l ∈ R)) c
  have hfl : fls R c = (c.filter fun l => decide (-l ∈ R)).length := rfl
  constructor
  · intro h
    have h1 : (c.filter fun x => !decide (-x ∈ R)).length = 1 := by omega
    obtain ⟨l, e⟩ := List.length_eq_one_iff.1 h1
    have hl : l ∈ c.filter fun x => !decide (-x ∈ R) := by rw [e]; simp
    obtain ⟨a, b⟩ := List.mem_filter.1 hl
    have b : -l ∉ R := by simpa using b
    have oth : ∀ m ∈ c, m ≠ l → -m ∈ R := fun m hm hne => Classical.byContradiction fun hq => by
      have : m ∈ c.filter fun x => !decide (-x ∈ R) := List.mem_filter.2 ⟨hm, by simpa using hq⟩
      rw [e] at this
      exact hne (by simpa using this)
    refine ⟨l, a, Classical.byContradiction fun hq => ?_, oth⟩
    have := kd_unit (L := R) a b oth fun m hm hmR => by
      by_cases e2 : m = l
      · subst e2; exact hq hmR
      · exact hc m hmR (oth m hm e2)
    rw [hk] at this; cases this
  · rintro ⟨l, a, b, oth⟩
    have hlR : -l ∉ R := hc l b
    have h1 : (c.filter fun x => !decide (-x ∈ R)) = [l] := by
      have nd := hd.filter (fun x => !decide (-x ∈ R))
      have hm : ∀ x, x ∈ (c.filter fun x => !decide (-x ∈ R)) ↔ x = l := fun x => by
        rw [List.mem_filter]
        constructor
        · rintro ⟨p, q⟩
          have q : -x ∉ R := by simpa using q
          exact Classical.byContradiction fun hne => q (oth x p hne)
        · intro e; subst e; exact ⟨a, by simpa using hlR⟩
      exact List.perm_singleton.1 ((List.perm_ext_iff_of_nodup nd (by simp)).2 fun x => by rw [hm x]; simp)
    rw [h1] at hsp
    simp at hsp
    rw [hfl]
    exact hsp
theorem fls_take {j : Nat} (h : j < c.length) : fls R (c.take (j + 1)) = fls R (c.take j) + if -(c.getD j 0) ∈ R then 1 else 0 := by
  unfold fls
  rw [List.take_succ_eq_append_getElem h, List.filter_append, List.length_append, List.getD_eq_getElem?_getD, List.getElem?_eq_getElem h]
  congr 1
  by_cases e : -c[j] ∈ R <;> simp [List.filter_cons, e]
theorem Rs.kd (h : Rs n cl lk fs ch R) {d : List Int} (hd : d ∈ cssOf cl) : kd R d = none := by
  obtain ⟨j, hj, e⟩ := in_getD hd
  rw [← e]; exact h.calm j hj
end
/-- every place is come to -/
theorem round_all {N f j : Nat} (hj : j < N) : ∃ k, k < N ∧ (f + k) % N = j := by
  refine ⟨(j + (N - f % N)) % N, Nat.mod_lt _ (by omega), ?_⟩
  have hf : f % N < N := Nat.mod_lt _ (by omega)
  rw [Nat.add_mod, Nat.mod_mod]
  by_cases e : f % N = 0
  · rw [e, Nat.sub_zero, Nat.zero_add, Nat.mod_mod, Nat.add_mod_right]; exact Nat.mod_eq_of_lt hj
  · by_cases e2 : j < f % N
    · rw [Nat.mod_eq_of_lt (show j + (N - f % N) < N by omega), show f % N + (j + (N - f % N)) = j + N by omega, Nat.add_mod_right]; exact Nat.mod_eq_of_lt hj
    · rw [show j + (N - f % N) = (j - f % N) + N by omega, Nat.add_mod_right, Nat.mod_eq_of_lt (show j - f % N < N by omega), show f % N + (j - f % N) = j by omega]; exact Nat.mod_eq_of_lt hj
end Go.Proofs.YtjajafeaengnjaaGreatDoor
