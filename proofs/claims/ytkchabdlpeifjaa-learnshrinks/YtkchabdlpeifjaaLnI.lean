/-
  learn, pure: what a clash teaches.
  KEEP: len below nil form rd mono one more grown lt size cell some none of ofNat add out step row get at mk new made look put del kept drew alloc has same other map rde take lit lev lstB pre ws cells bnd on start app set box bel rz tidy ms reason
-/
import Derived.Test.YtkchabdlpeifjaaLnG
set_option linter.unusedSimpArgs false
set_option linter.unusedVariables false
namespace Go.Proofs.Ytkchabdlpeifjaa
open Go
/-- an entry's level, its literal's opposite; a literal's place -/
def lvP (t : List Ent) (p : Nat) : Int := (t.getD p e0).2.1
def opP (t : List Ent) (p : Nat) : Int := -(t.getD p e0).1
def plN (t : List Ent) (x : Int) : Nat := (vpl t (varOf x)).getD 0
/-- how many of the first n places are in the set, of level L -/
def cn (t : List Ent) (L : Int) (T : Int → Bool) : Nat → Nat
  | 0 => 0
  | n + 1 => cn t L T n + if T (n : Int) && lvP t n == L then 1 else 0
def adS (t : List Ent) (T : Int → Bool) (zs : List Int) : Int → Bool := zs.foldl (fun T x => inS T (plN t x : Int)) T
theorem adS_snoc (t : List Ent) (T : Int → Bool) (zs : List Int) (x : Int) : adS t T (zs ++ [x]) = inS (adS t T zs) (plN t x : Int) := by simp [adS, List.foldl_append]
theorem adS_mem (t : List Ent) (zs : List Int) : ∀ (T : Int → Bool) (q : Int), adS t T zs q = true ↔ T q = true ∨ ∃ x ∈ zs, (plN t x : Int) = q := by
  induction zs with
  | nil => intro T q; simp [adS]
  | cons x r ih =>
    intro T q
    have : adS t T (x :: r) = adS t (inS T (plN t x : Int)) r := rfl
    rw [this, ih]
    unfold inS
    simp only [Bool.or_eq_true, beq_iff_eq, List.mem_cons, exists_eq_or_imp]
    constructor
    · rintro ((h | h) | h)
      · exact .inr (.inl h.symm)
      · exact .inl h
      · exact .inr (.inr h)
    · rintro (h | h | h)
      · exact .inl (.inr h)
      · exact .inl (.inl h.symm)
      · exact .inr h
theorem inS_self {T : Int → Bool} {p : Int} (h : T p = true) : inS T p = T := by
  funext y
  unfold inS
  by_cases e : y = p
  · subst e; rw [h]; simp
  · rw [beq_eq_false_iff_ne.2 e]; rfl
theorem cn_in_ge (t : List Ent) (L : Int) (T : Int → Bool) (p : Nat) : ∀ n, n ≤ p → cn t L (inS T (p : Int)) n = cn t L T n
  | 0, _ => rfl
  | n + 1, h => by
    unfold cn
    rw [cn_in_ge t L T p n (by omega)]
    have : inS T (p : Int) (n : Int) = T (n : Int) := by
      unfold inS; rw [beq_eq_false_iff_ne.2 (by omega)]; rfl
    rw [this]
theorem cn_in (t : List Ent) (L : Int) (T : Int → Bool) (p : Nat) (hp : T (p : Int) = false) : ∀ n, p < n → cn t L (inS T (p : Int)) n = cn t L T n + if lvP t p == L then 1 else 0
  | 0, h => by omega
  | n + 1, h => by
    unfold cn
    by_cases e : p = n
    · subst e
      rw [cn_in_ge t L T p p (Nat.le_refl _)]
      have : inS T (p : Int) (p : Int) = true := by unfold inS; simp
      rw [this, hp]; simp
    · rw [cn_in t L T p hp n (by omega)]
      have : inS T (p : Int) (n : Int) = T (n : Int) := by
        unfold inS; rw [beq_eq_false_iff_ne.2 (by omega)]; rfl
      rw [this]; omega
theorem cn_out_ge (t : List Ent) (L : Int) (T : Int → Bool) (p : Nat) : ∀ n, n ≤ p → cn t L (outS T (p : Int)) n = cn t L T n
  | 0, _ => rfl
  | n + 1, h => by
    unfold cn
    rw [cn_out_ge t L T p n (by omega)]
    have : outS T (p : Int) (n : Int) = T (n : Int) := by
      unfold outS; rw [show ((n : Int) != (p : Int)) = true by simp; omega]; rfl
    rw [this]
theorem cn_out (t : List Ent) (L : Int) (T : Int → Bool) (p : Nat) (hp : T (p : Int) = true) (hl : lvP t p = L) : ∀ n, p < n → cn t L (outS T (p : Int)) n + 1 = cn t L T n
  | 0, h => by omega
  | n + 1, h => by
    unfold cn
    by_cases e : p = n
    · subst e
      rw [cn_out_ge t L T p p (Nat.le_refl _)]
      have : outS T (p : Int) (p : Int) = false := by unfold outS; simp
      rw [this, hp, hl]; simp
    · have ih := cn_out t L T p hp hl n (by omega)
      have : outS T (p : Int) (n : Int) = T (n : Int) := by
        unfold outS; rw [show ((n : Int) != (p : Int)) = true by simp; omega]; rfl
      rw [this]; omega
theorem cn_le (t : List Ent) (L : Int) (T : Int → Bool) : ∀ n, cn t L T n ≤ n
  | 0 => Nat.le_refl _
  | n + 1 => by
    have := cn_le t L T n
    unfold cn
    split <;> omega
theorem cn_none (t : List Ent) (L : Int) (T : Int → Bool) : ∀ n k, k ≤ n → (∀ p : Nat, k ≤ p → T (p : Int) = false) → cn t L T n = cn t L T k
  | 0, k, hk, _ => by obtain rfl : k = 0 := by omega
                      rfl
  | n + 1, k, hk, h => by
    by_cases e : k = n + 1
    · subst e; rfl
    · have ih := cn_none t L T n k (by omega) h
      have : T (n : Int) = false := h n (by omega)
      unfold cn
      rw [this, ih]
      cases k <;> simp [cn]
theorem cn_pos (t : List Ent) (L : Int) (T : Int → Bool) : ∀ n, 0 < cn t L T n → ∃ p : Nat, p < n ∧ T (p : Int) = true ∧ lvP t p = L
  | 0, h => by simp [cn] at h
  | n + 1, h => by
    unfold cn at h
    cases hc : (T (n : Int) && lvP t n == L) with
    | true =>
      rw [Bool.and_eq_true, beq_iff_eq] at hc
      exact ⟨n, by omega, hc.1, hc.2⟩
    | false =>
      rw [hc] at h
      obtain ⟨p, h1, h2⟩ := cn_pos t L T n (by simpa using h)
      exact ⟨p, by omega, h2⟩
theorem cn_has (t : List Ent) (L : Int) (T : Int → Bool) (p : Nat) (hp : T (p : Int) = true) (hl : lvP t p = L) : ∀ n, p < n → 0 < cn t L T n
  | 0, h => by omega
  | n + 1, h => by
    unfold cn
    by_cases e : p = n
    · subst e; rw [hp, hl]; simp
    · have := cn_has t L T p hp hl n (by omega)
      omega
/-- the one of level L, where there is just one -/
theorem cn_one (t : List Ent) (L : Int) (T : Int → Bool) (n : Nat) (h : cn t L T n = 1) {p q : Nat} (hp : p < n) (hq : q < n) (tp : T (p : Int) = true) (tq : T (q : Int) = true) (lp : lvP t p = L) (lq : lvP t q = L) : p = q := by
  by_cases e : p = q
  · exact e
  · have h1 := cn_out t L T p tp lp n hp
    have h2 : outS T (p : Int) (q : Int) = true := by
      unfold outS; rw [show ((q : Int) != (p : Int)) = true by simp; omega, tq]; rfl
    have h3 := cn_has t L (outS T (p : Int)) q h2 lq n hq
    omega
/-- a reason's other literals -/
def rOth (t : List Ent) (k : Nat) : List Int := (t.getD k e0).2.2.filter (fun x => x != (t.getD k e0).1)
/-- resolved, from place k - 1 on -/
def rsv (t : List Ent) (L : Int) : Nat → (Int → Bool) → (Int → Bool)
  | 0, T => T
  | k + 1, T => if cn t L T t.length ≤ 1 then T else if T (k : Int) then rsv t L k (adS t (outS T (k : Int)) (rOth t k)) else rsv t L k T
theorem rsv_succ (t : List Ent) (L : Int) (k : Nat) (T : Int → Bool) : rsv t L (k + 1) T = if cn t L T t.length ≤ 1 then T else if T (k : Int) = true then rsv t L k (adS t (outS T (k : Int)) (rOth t k)) else rsv t L k T := rfl
/-- what holds of the set on the way -/
structure Iv (t : List Ent) (L : Int) (k : Nat) (T : Int → Bool) : Prop where
  bnd : ∀ q, T q = true → 0 ≤ q ∧ q < (k : Int)
  lev : ∀ p : Nat, T (p : Int) = true → lvP t p ≤ L
  le : k ≤ t.length
theorem Ws.plN_some {t : List Ent} (h : Ws t) {x : Int} {i : Nat} (hx : fmd x = true) (hi : plc t x = some i) : plN t x = i ∧ i < t.length ∧ opP t i = x ∧ lvl t x = lvP t i := by
  have h1 := h.plc_vpl hx hi
  obtain ⟨h2, h3, _⟩ := plc_some hi
  refine ⟨by unfold plN; rw [h1]; rfl, h2, by unfold opP; rw [h3]; omega, by unfold lvl lvP; rw [h1]⟩
theorem Ws.isF_at {t : List Ent} (h : Ws t) {x : Int} (hx : isF t x = true) : fmd x = true ∧ plN t x < t.length ∧ opP t (plN t x) = x ∧ lvl t x = lvP t (plN t x) ∧ plc t x = some (plN t x) := by
  obtain ⟨h1, i, h2⟩ := h.isF_iff.1 hx
  obtain ⟨h3, h4, h5, h6⟩ := h.plN_some h1 h2
  rw [h3]; exact ⟨h1, h4, h5, h6, h2⟩
/-- the opposite of an entry's literal is false, at its place -/
theorem Ws.opP_at {t : List Ent} (h : Ws t) {p : Nat} (hp : p < t.length) : fmd (opP t p) = true ∧ isF t (opP t p) = true ∧ plN t (opP t p) = p := by
  have h1 := fmd_neg (h.lit hp)
  have h2 : vpl t (varOf (opP t p)) = some p := by
    unfold opP
    rw [varOf_opp (h.lit hp)]
    cases e : vpl t (varOf (t.getD p e0).1) with
    | none => exact absurd rfl (vpl_none.1 e p hp)
    | some j =>
      obtain ⟨k1, k2, _⟩ := vpl_some e
      rw [h.one (i := j) (j := p) k1 hp (by rw [k2])]
  refine ⟨h1, ?_, by unfold plN; rw [h2]; rfl⟩
  unfold isF
  rw [h2]
  show ((t.getD p e0).1 == -opP t p) = true
  unfold opP; simp
theorem Ws.rOth_at {t : List Ent} (h : Ws t) {k : Nat} (hk : k < t.length) {x : Int} (hx : x ∈ rOth t k) : isF t x = true ∧ plN t x < k := by
  obtain ⟨h1, h2⟩ := List.mem_filter.1 hx
  have hr : (t.getD k e0).2.2.length ≠ 0 := by
    intro e
    rw [List.length_eq_zero_iff.1 e] at h1
    cases h1
  obtain ⟨q1, j, hj, q2⟩ := (h.reason hk hr).2 x h1 (by simpa using h2)
  have := h.plN_some q1 q2
  exact ⟨h.isF_iff.2 ⟨q1, j, q2⟩, by omega⟩
theorem lvP_rise {t : List Ent} (h : Ws t) {i j : Nat} (hj : j < t.length) (hij : i ≤ j) : lvP t i ≤ lvP t j := h.rise hj hij
/-- at the greatest place of the set it is of level L, as long as there are two -/
theorem Iv.at {t : List Ent} {L : Int} {k : Nat} {T : Int → Bool} (h : Iv t L (k + 1) T) (hw : Ws t) (hc : 1 < cn t L T t.length) (hk : T (k : Int) = true) : lvP t k = L := by
  obtain ⟨p, h1, h2, h3⟩ := cn_pos t L T t.length (by omega)
  have h4 := (h.bnd _ h2).2
  have h5 := lvP_rise hw (i := p) (j := k) (by have := h.le; omega) (by omega)
  have h6 := h.lev k hk
  omega
theorem Iv.step {t : List Ent} {L : Int} {k : Nat} {T : Int → Bool} (h : Iv t L (k + 1) T) (hw : Ws t) (hc : 1 < cn t L T t.length) (hk : T (k : Int) = true) : Iv t L k (adS t (outS T (k : Int)) (rOth t k)) := by
  have hL := h.at hw hc hk
  have hkl : k < t.length := by have := h.le; omega
  refine ⟨fun q hq => ?_, fun p hp => ?_, by omega⟩
  · rcases (adS_mem t _ _ q).1 hq with h1 | ⟨x, hx, rfl⟩
    · unfold outS at h1
      rw [Bool.and_eq_true, bne_iff_ne] at h1
      have := h.bnd q h1.2
      omega
    · have := (hw.rOth_at hkl hx).2
      omega
  · rcases (adS_mem t _ _ _).1 hp with h1 | ⟨x, hx, e⟩
    · unfold outS at h1
      rw [Bool.and_eq_true] at h1
      exact h.lev p h1.2
    · have h2 := (hw.rOth_at hkl hx).2
      have h3 : plN t x = p := by omega
      rw [h3] at h2
      have := lvP_rise hw (i := p) (j := k) hkl (by omega)
      omega
theorem Iv.skip {t : List Ent} {L : Int} {k : Nat} {T : Int → Bool} (h : Iv t L (k + 1) T) (hk : T (k : Int) = false) : Iv t L k T := by
  refine ⟨fun q hq => ?_, h.lev, by have := h.le; omega⟩
  have h1 := h.bnd q hq
  by_cases e : q = (k : Int)
  · subst e; rw [hk] at hq; cases hq
  · omega
/-- adding takes nothing from the count -/
theorem cn_adS (t : List Ent) (L : Int) (zs : List Int) : ∀ (T : Int → Bool), (∀ x ∈ zs, plN t x < t.length) → cn t L T t.length ≤ cn t L (adS t T zs) t.length := by
  induction zs with
  | nil => intro T _; exact Nat.le_refl _
  | cons x r ih =>
    intro T h
    have h1 := ih (inS T (plN t x : Int)) (fun y hy => h y (by simp [hy]))
    have h2 : cn t L T t.length ≤ cn t L (inS T (plN t x : Int)) t.length := by
      cases e : T (plN t x : Int) with
      | true => rw [inS_self e]; exact Nat.le_refl _
      | false => rw [cn_in t L T _ e _ (h x (by simp))]; omega
    exact Nat.le_trans h2 h1
/-- in the end just one is of level L -/
theorem rsv_end {t : List Ent} (hw : Ws t) {L : Int} : ∀ (k : Nat) (T : Int → Bool), Iv t L k T → 0 < cn t L T t.length → cn t L (rsv t L k T) t.length = 1 ∧ Iv t L t.length (rsv t L k T)
  | 0, T, h, hc => by
    have := cn_none t L T t.length 0 (by omega) (fun p _ => by
      cases e : T (p : Int) with
      | false => rfl
      | true => have := h.bnd _ e; omega)
    rw [this] at hc
    simp [cn] at hc
  | k + 1, T, h, hc => by
    unfold rsv
    have hle := h.le
    split
    · rename_i h1
      exact ⟨by omega, ⟨fun q hq => by have := h.bnd q hq; omega, h.lev, Nat.le_refl _⟩⟩
    · rename_i h1
      split
      · rename_i h2
        have hs := h.step hw (by omega) h2
        refine rsv_end hw k _ hs ?_
        have h3 := cn_out t L T k h2 (h.at hw (by omega) h2) t.length (by omega)
        have h4 := cn_adS t L (rOth t k) (outS T (k : Int)) (fun x hx => by have := (hw.rOth_at (by omega) hx).2; omega)
        omega
      · rename_i h2
        exact rsv_end hw k T (h.skip (by simpa using h2)) hc
/-- skipping what isn't in the set -/
theorem rsv_skip {t : List Ent} {L : Int} {T : Int → Bool} (hc : 1 < cn t L T t.length) {p : Nat} (hp : T (p : Int) = true) : ∀ k, p < k → (∀ q : Nat, p < q → q < k → T (q : Int) = false) → rsv t L k T = rsv t L p (adS t (outS T (p : Int)) (rOth t p))
  | 0, h, _ => by omega
  | k + 1, h, hn => by
    rw [rsv_succ, if_neg (by omega)]
    by_cases e : k = p
    · subst e; rw [if_pos hp]
    · rw [if_neg (by rw [hn k (by omega) (by omega)]; simp)]
      exact rsv_skip hc hp k (by omega) (fun q h1 h2 => hn q h1 (by omega))
theorem rsv_stop {t : List Ent} {L : Int} {T : Int → Bool} (hc : cn t L T t.length ≤ 1) : ∀ k, rsv t L k T = T
  | 0 => rfl
  | k + 1 => by unfold rsv; rw [if_pos hc]
/-- the literals of a set of places -/
def ltS (t : List Ent) (T : Int → Bool) : List Int := ((List.range t.length).filter fun (p : Nat) => T (p : Int)).map (opP t)
theorem ltS_mem {t : List Ent} {T : Int → Bool} {x : Int} : x ∈ ltS t T ↔ ∃ p : Nat, p < t.length ∧ T (p : Int) = true ∧ opP t p = x := by
  simp [ltS, and_assoc]
/-- the greatest level of some literals -/
def topI (t : List Ent) (zs : List Int) : Int := zs.foldl (fun m x => max m (lvl t x)) 0
theorem topI_snoc (t : List Ent) (zs : List Int) (x : Int) : topI t (zs ++ [x]) = max (topI t zs) (lvl t x) := by simp [topI, List.foldl_append]
theorem topI_is (t : List Ent) (zs : List Int) : 0 ≤ topI t zs ∧ (∀ x ∈ zs, lvl t x ≤ topI t zs) ∧ (topI t zs = 0 ∨ ∃ x ∈ zs, lvl t x = topI t zs) := by
  have key : ∀ (zs : List Int) (m : Int), m ≤ zs.foldl (fun m x => max m (lvl t x)) m ∧ (∀ x ∈ zs, lvl t x ≤ zs.foldl (fun m x => max m (lvl t x)) m) ∧ (zs.foldl (fun m x => max m (lvl t x)) m = m ∨ ∃ x ∈ zs, lvl t x = zs.foldl (fun m x => max m (lvl t x)) m) := by
    intro zs
    induction zs with
    | nil => intro m; exact ⟨Int.le_refl _, fun x h => (by cases h), Or.inl rfl⟩
    | cons y r ih =>
      intro m
      obtain ⟨h1, h2, h3⟩ := ih (max m (lvl t y))
      rw [List.foldl_cons]
      refine ⟨by omega, fun x hx => ?_, ?_⟩
      · rcases List.mem_cons.1 hx with rfl | hx
        · omega
        · exact h2 x hx
      · rcases h3 with h3 | ⟨x, hx, h3⟩
        · by_cases e : m ≤ lvl t y
          · right; exact ⟨y, by simp, by omega⟩
          · left; omega
        · right; exact ⟨x, by simp [hx], h3⟩
  have := key zs 0
  exact ⟨this.1, this.2.1, this.2.2⟩
theorem topI_congr (t : List Ent) {zs ys : List Int} (h : ∀ x, x ∈ zs ↔ x ∈ ys) : topI t zs = topI t ys := by
  have h1 := topI_is t zs
  have h2 := topI_is t ys
  have a : topI t zs ≤ topI t ys := by
    rcases h1.2.2 with e | ⟨x, hx, e⟩
    · omega
    · have := h2.2.1 x ((h x).1 hx); omega
  have b : topI t ys ≤ topI t zs := by
    rcases h2.2.2 with e | ⟨x, hx, e⟩
    · omega
    · have := h1.2.1 x ((h x).2 hx); omega
  omega
/-- the set that a clash begins with, and ends with -/
def T0 (t : List Ent) (zs : List Int) : Int → Bool := adS t (fun _ => false) zs
def RS (t : List Ent) (zs : List Int) : Int → Bool := rsv t (topI t zs) t.length (T0 t zs)
/-- the one of level L of a set; the others that aren't of level 0 -/
def oneL (t : List Ent) (L : Int) (T : Int → Bool) : Int := ((ltS t T).filter fun x => lvl t x == L).headD 0
def othL (t : List Ent) (L : Int) (T : Int → Bool) : List Int := (ltS t T).filter fun x => lvl t x != 0 && lvl t x != L
/-- what is learnt, and the level to go back to -/
def lrnC (t : List Ent) (zs : List Int) : List Int := if topI t zs = 0 then [] else oneL t (topI t zs) (RS t zs) :: tid (othL t (topI t zs) (RS t zs))
def lrnB (t : List Ent) (zs : List Int) : Int := if topI t zs = 0 then -1 else topI t (othL t (topI t zs) (RS t zs))
theorem T0_iv {t : List Ent} (hw : Ws t) {zs : List Int} (hf : falB t zs = true) : Iv t (topI t zs) t.length (T0 t zs) := by
  unfold falB at hf
  rw [List.all_eq_true] at hf
  refine ⟨fun q hq => ?_, fun p hp => ?_, Nat.le_refl _⟩
  · rcases (adS_mem t _ _ q).1 hq with h1 | ⟨x, hx, rfl⟩
    · cases h1
    · have := (hw.isF_at (hf x hx)).2.1; omega
  · rcases (adS_mem t _ _ _).1 hp with h1 | ⟨x, hx, e⟩
    · cases h1
    · obtain ⟨h1, h2, h3, h4, _⟩ := hw.isF_at (hf x hx)
      have h5 : plN t x = p := by omega
      rw [h5] at h4
      rw [← h4]
      exact (topI_is t zs).2.1 x hx
theorem T0_cn {t : List Ent} (hw : Ws t) {zs : List Int} (hf : falB t zs = true) (h0 : topI t zs ≠ 0) : 0 < cn t (topI t zs) (T0 t zs) t.length := by
  unfold falB at hf
  rw [List.all_eq_true] at hf
  rcases (topI_is t zs).2.2 with e | ⟨x, hx, e⟩
  · exact absurd e h0
  · obtain ⟨h1, h2, h3, h4, _⟩ := hw.isF_at (hf x hx)
    exact cn_has t _ _ (plN t x) ((adS_mem t _ _ _).2 (.inr ⟨x, hx, rfl⟩)) (by rw [← h4, e]) _ h2
theorem RS_end {t : List Ent} (hw : Ws t) {zs : List Int} (hf : falB t zs = true) (h0 : topI t zs ≠ 0) : cn t (topI t zs) (RS t zs) t.length = 1 ∧ Iv t (topI t zs) t.length (RS t zs) := rsv_end hw _ _ (T0_iv hw hf) (T0_cn hw hf h0)
end Go.Proofs.Ytkchabdlpeifjaa
