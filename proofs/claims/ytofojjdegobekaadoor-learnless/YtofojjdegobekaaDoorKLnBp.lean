/-
  learn, pure: the formula of all reasons, of what is true on level 0 and of a clause.
  KEEP: len below nil form rd mono one more grown lt size cell some none of ofNat add out step row get at mk new made look put del kept drew alloc has same other map rde take lit lev lstB pre ws cells bnd on start app set box bel rz tidy ms reason c f max lv skip end
-/
import Derived.Test.YtofojjdegobekaaDoorKLnFp
import Derived.Test.YtofojjdegobekaaDoorJUnS
set_option linter.unusedSimpArgs false
set_option linter.unusedVariables false
namespace Go.Proofs.YtofojjdegobekaaDoor
/-- the greatest variable in a list, or above -/
def grv (c : List Int) (a : Int) : Int := c.foldl (fun m x => max (max m x) (-x)) a
theorem grv_snoc (c : List Int) (x a : Int) : grv (c ++ [x]) a = max (max (grv c a) x) (-x) := by simp [grv, List.foldl_append]
theorem grv_nil (a : Int) : grv [] a = a := rfl
theorem grv_is : ∀ (c : List Int) (a : Int), a ≤ grv c a ∧ (∀ x ∈ c, x ≤ grv c a ∧ -x ≤ grv c a) ∧ ∀ M, a ≤ M → (∀ x ∈ c, x ≤ M ∧ -x ≤ M) → grv c a ≤ M
  | [], a => ⟨Int.le_refl _, fun x h => (by cases h), fun M h _ => h⟩
  | y :: r, a => by
    obtain ⟨h1, h2, h3⟩ := grv_is r (max (max a y) (-y))
    have e : grv (y :: r) a = grv r (max (max a y) (-y)) := rfl
    rw [e]
    refine ⟨by omega, fun x hx => ?_, fun M h4 h5 => h3 M (by have := h5 y (by simp); omega) fun x hx => h5 x (by simp [hx])⟩
    rcases List.mem_cons.1 hx with rfl | hx
    · omega
    · exact h2 x hx
def grE (m : Int) (e : Ent) : Int := grv e.2.2 (max (max m e.1) (-e.1))
/-- Vars, of the first k entries -/
def vrs (t : List Ent) (m : Int) (k : Nat) : Int := (t.take k).foldl grE m
theorem vrs_zero (t : List Ent) (m : Int) : vrs t m 0 = m := by simp [vrs]
theorem vrs_succ {t : List Ent} {m : Int} {k : Nat} (hk : k < t.length) : vrs t m (k + 1) = grv (t.getD k e0).2.2 (max (max (vrs t m k) (t.getD k e0).1) (-(t.getD k e0).1)) := by
  unfold vrs
  rw [take_succ_getD t e0 k hk, List.foldl_append]; rfl
/-- the clauses of an entry -/
def blE (e : Ent) : List (List Int) := (if e.2.2.length = 0 then [] else [e.2.2]) ++ (if e.2.1 = 0 then [[e.1]] else [])
def blK (t : List Ent) (k : Nat) : List (List Int) := (t.take k).flatMap blE
theorem blK_zero (t : List Ent) : blK t 0 = [] := by simp [blK]
theorem blK_succ {t : List Ent} {k : Nat} (hk : k < t.length) : blK t (k + 1) = blK t k ++ blE (t.getD k e0) := by
  unfold blK
  rw [take_succ_getD t e0 k hk, List.flatMap_append]; simp
/-- the formula -/
def blC (t : List Ent) (zs : List Int) : List (List Int) := blK t t.length ++ [zs]
def blV (t : List Ent) (zs : List Int) : Int := vrs t (grv zs 0) t.length
section
variable {t : List Ent} {zs : List Int}
theorem blK_len (t : List Ent) : ∀ k, (blK t k).length ≤ 2 * k
  | 0 => by simp [blK]
  | k + 1 => by
    have ih := blK_len t k
    by_cases hk : k < t.length
    · rw [blK_succ hk, List.length_append]
      have : (blE (t.getD k e0)).length ≤ 2 := by unfold blE; split <;> split <;> simp
      omega
    · have : blK t (k + 1) = blK t k := by unfold blK; rw [List.take_of_length_le (by omega), List.take_of_length_le (by omega)]
      rw [this]; omega
theorem blC_blv (t : List Ent) (zs : List Int) : Blv t (blC t zs) := by
  have hin : ∀ k, k < t.length → t.getD k e0 ∈ t := fun k hk => getD_mem' hk
  have key : ∀ k, k < t.length → ∀ c ∈ blE (t.getD k e0), c ∈ blC t zs := fun k hk c hc => by
    unfold blC blK
    rw [List.take_length]
    exact List.mem_append.2 (.inl (List.mem_flatMap.2 ⟨_, hin k hk, hc⟩))
  refine ⟨fun k hk hr => key k hk _ ?_, fun k hk h0 => key k hk _ ?_⟩
  · unfold blE; rw [if_neg hr]; simp
  · unfold blE; rw [if_pos (show (t.getD k e0).2.1 = 0 from h0)]; simp
theorem blC_self (t : List Ent) (zs : List Int) : zs ∈ blC t zs := by unfold blC; simp
theorem vrs_is (hw : Ws t) {m : Int} (h0 : 0 ≤ m) (hm : m ≤ 1048576) : ∀ k, k ≤ t.length → m ≤ vrs t m k ∧ vrs t m k ≤ 1048576 ∧ ∀ j, j < k → ((t.getD j e0).1 ≤ vrs t m k ∧ -(t.getD j e0).1 ≤ vrs t m k) ∧ ∀ x ∈ (t.getD j e0).2.2, x ≤ vrs t m k ∧ -x ≤ vrs t m k
  | 0, _ => by rw [vrs_zero]; exact ⟨Int.le_refl _, hm, fun j hj => by omega⟩
  | k + 1, hk => by
    obtain ⟨h1, h2, h3⟩ := vrs_is hw h0 hm k (by omega)
    have hl := fmd_range (hw.lit (i := k) (by omega))
    have hr : ∀ x ∈ (t.getD k e0).2.2, x ≤ 1048576 ∧ -x ≤ 1048576 := fun x hx => by
      have hne : (t.getD k e0).2.2.length ≠ 0 := by intro e; rw [List.length_eq_zero_iff.1 e] at hx; cases hx
      by_cases e : x = (t.getD k e0).1
      · rw [e]; omega
      · have := fmd_range ((hw.reason (i := k) (by omega) hne).2 x hx e).1; omega
    rw [vrs_succ (by omega)]
    obtain ⟨g1, g2, g3⟩ := grv_is (t.getD k e0).2.2 (max (max (vrs t m k) (t.getD k e0).1) (-(t.getD k e0).1))
    refine ⟨by omega, g3 _ (by omega) hr, fun j hj => ?_⟩
    by_cases e : j = k
    · subst e; exact ⟨by omega, g2⟩
    · obtain ⟨q1, q2⟩ := h3 j (by omega)
      exact ⟨by omega, fun x hx => by have := q2 x hx; omega⟩
theorem fits_of {n : Int} {c : List Int} (hf : ∀ x ∈ c, fmd x = true) (h : ∀ x ∈ c, x ≤ n ∧ -x ≤ n) : fitsP n c = true := by
  unfold fitsP
  rw [List.all_eq_true]
  intro x hx
  rw [hf x hx, Bool.true_and]
  refine decide_eq_true ?_
  have h1 := h x hx
  have h2 := fmd_range (hf x hx)
  rcases Int.lt_trichotomy x 0 with k | k | k
  · rw [(there_neg (hf x hx) k).2]; omega
  · exact absurd k h2.1
  · rw [(there_pos (hf x hx) k).2]; omega
theorem grv_zs (hz : zs.all fmd = true) : 0 ≤ grv zs 0 ∧ grv zs 0 ≤ 1048576 := by
  rw [List.all_eq_true] at hz
  obtain ⟨g1, g2, g3⟩ := grv_is zs 0
  exact ⟨g1, g3 _ (by omega) fun x hx => by have := fmd_range (hz x hx); omega⟩
/-- the formula is well shaped -/
theorem blC_frm (hw : Ws t) (hz : zs.all fmd = true) : frm (blV t zs) (blC t zs) = true := by
  obtain ⟨z1, z2⟩ := grv_zs hz
  obtain ⟨h1, h2, h3⟩ := vrs_is hw z1 z2 t.length (Nat.le_refl _)
  unfold frm
  rw [Bool.and_eq_true, List.all_eq_true]
  refine ⟨decide_eq_true ⟨by unfold blV; omega, h2⟩, fun c hc => ?_⟩
  unfold blC at hc
  rcases List.mem_append.1 hc with hc | hc
  · unfold blK at hc
    rw [List.take_length] at hc
    obtain ⟨e, he, hce⟩ := List.mem_flatMap.1 hc
    obtain ⟨k, hk, rfl⟩ := List.getElem_of_mem he
    have ek : t[k] = t.getD k e0 := by simp [List.getD_eq_getElem?_getD, hk]
    rw [ek] at hce
    obtain ⟨q1, q2⟩ := h3 k hk
    unfold blE at hce
    rcases List.mem_append.1 hce with hce | hce
    · split at hce
      · cases hce
      · rename_i hne
        obtain rfl : c = (t.getD k e0).2.2 := by simpa using hce
        refine fits_of (fun x hx => ?_) q2
        by_cases e : x = (t.getD k e0).1
        · rw [e]; exact hw.lit hk
        · exact ((hw.reason hk hne).2 x hx e).1
    · split at hce
      · obtain rfl : c = [(t.getD k e0).1] := by simpa using hce
        refine fits_of (fun x hx => ?_) (fun x hx => ?_)
        · obtain rfl : x = (t.getD k e0).1 := by simpa using hx
          exact hw.lit hk
        · obtain rfl : x = (t.getD k e0).1 := by simpa using hx
          exact q1
      · cases hce
  · obtain rfl : c = zs := by simpa using hc
    refine fits_of (List.all_eq_true.1 hz) (fun x hx => ?_)
    have := (grv_is c 0).2.1 x hx
    unfold blV
    omega
theorem blK_sum (t : List Ent) : ∀ k, k ≤ t.length → lsum (blK t k) ≤ ((t.take k).map fun e => e.2.2.length).sum + k
  | 0, _ => by simp [blK, lsum]
  | k + 1, hk => by
    have ih := blK_sum t k (by omega)
    rw [blK_succ (by omega), take_succ_getD t e0 k (by omega)]
    unfold lsum at ih ⊢
    rw [List.map_append, List.sum_append, List.map_append, List.sum_append]
    have : ((blE (t.getD k e0)).map List.length).sum ≤ (t.getD k e0).2.2.length + 1 := by
      unfold blE
      split <;> split <;> simp_all
    simp only [List.map_cons, List.map_nil, List.sum_cons, List.sum_nil]
    omega
theorem blC_few (hw : Ws t) (hb : t.length + (t.map fun e => e.2.2.length).sum ≤ 1048576) (hz : zs.length ≤ 1048576) : Few (blC t zs) := by
  have h1 := blK_len t t.length
  have h2 := blK_sum t t.length (Nat.le_refl _)
  rw [List.take_length] at h2
  refine Few.of ?_ ?_
  · unfold blC; rw [List.length_append]; simp; omega
  · unfold lsum at h2 ⊢
    unfold blC; rw [List.map_append, List.sum_append]
    simp only [List.map_cons, List.map_nil, List.sum_cons, List.sum_nil]
    omega
theorem shp_bl (hw : Ws t) (hz : zs.all fmd = true) {c : List Int} (hc : c.all fmd = true) : (frm (blV t zs) (blC t zs) && c.all fmd) = true := by rw [blC_frm hw hz, hc]; rfl
end
end Go.Proofs.YtofojjdegobekaaDoor
