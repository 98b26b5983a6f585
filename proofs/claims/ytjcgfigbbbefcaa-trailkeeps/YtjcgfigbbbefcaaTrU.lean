/-
  trail, purely: Back undoes.
  KEEP: set on app at below new trans refl start ap kept rd rds mono
-/
import Derived.Test.YtjcgfigbbbefcaaTrY
set_option linter.unusedSimpArgs false
set_option linter.unusedVariables false
namespace Go.Proofs.Ytjcgfigbbbefcaa
open Go Go.RowKit

theorem decF_ok {n : Nat} {R : List Pl} {l : Int} (h : okT n R) : okT n (decF n R l) := by
  unfold decF
  split
  · rename_i h0
    obtain ⟨h1, h2⟩ := refL_zero h0
    have h3 := of_decide_eq_true h1
    exact h.snoc h3.1 h3.2 h2 (by simp) (by simp [dcs])
  · exact h
theorem impF_ok {n : Nat} {R : List Pl} {l r : Int} (h : okT n R) : okT n (impF n R l r) := by
  unfold impF
  split
  · rename_i h0
    have h00 : refL n R l = 0 ∧ 0 ≤ r := by
      unfold impE at h0
      split at h0
      · rename_i h1; exact absurd h0 h1
      · rename_i h1
        split at h0
        · omega
        · exact ⟨by omega, by omega⟩
    obtain ⟨h1, h2⟩ := refL_zero h00.1
    have h3 := of_decide_eq_true h1
    have hnd : dcs ⟨l, now R, r⟩ = false := by simp [dcs]; omega
    exact h.snoc h3.1 h3.2 h2 (by simp; omega) (by rw [hnd]; simp)
  · exact h
theorem cutR_ok {n : Nat} {R : List Pl} {k : Nat} (h : okT n R) : okT n (cutR R k) ∧ ∃ i, cutR R k = R.take i := by
  by_cases hk : k < now R
  · obtain ⟨i, _, _, _, hc, _⟩ := lvs_next h hk
    rw [hc]; exact ⟨h.take i, i, rfl⟩
  · rw [cut_full h (by omega)]; exact ⟨h, R.length, by rw [List.take_length]⟩
theorem backF_ok {n : Nat} {R : List Pl} {k : Int} (h : okT n R) : okT n (backF R k) := by
  unfold backF
  split
  · exact (cutR_ok h).1
  · exact h
theorem actS_ok {n : Nat} {fl : Int} {R : List Pl} {o : TOp} (h : okT n R) : okT n (actS n fl R o) := by
  unfold actS
  split
  · exact decF_ok h
  · split
    · exact impF_ok h
    · exact backF_ok h
theorem actF_ok {n : Nat} {fl : Int} {ops : List TOp} : ∀ {R : List Pl}, okT n R → okT n (actF n fl R ops) := by
  induction ops with
  | nil => intro R h; exact h
  | cons o r ih => intro R h; exact ih (actS_ok h)
/-- what stands below a level stays -/
theorem actS_pre {n : Nat} {fl : Int} {R S : List Pl} {o : TOp} (h : okT n S) (hp : R <+: S) (hf : (now R : Int) ≤ fl) : R <+: actS n fl S o := by
  have dec : R <+: decF n S o.n := by
    unfold decF; split
    · exact hp.trans (List.prefix_append _ _)
    · exact hp
  have imp : R <+: impF n S o.n o.m := by
    unfold impF; split
    · exact hp.trans (List.prefix_append _ _)
    · exact hp
  have back : ∀ k : Int, fl ≤ k → R <+: backF S k := by
    intro k hk
    unfold backF; split
    · obtain ⟨T, rfl⟩ := hp
      unfold cutR
      rw [List.filter_append]
      have h1 : R.filter (fun p => decide (p.lev ≤ k.toNat)) = R := by
        have hR : okT n R := by have := h.take R.length; rwa [List.take_left] at this
        exact cut_full hR (by omega)
      rw [h1]
      exact List.prefix_append _ _
    · exact hp
  unfold actS
  split
  · exact dec
  · split
    · exact imp
    · apply back; split <;> omega
theorem actF_pre {n : Nat} {fl : Int} {R : List Pl} {ops : List TOp} (hf : (now R : Int) ≤ fl) : ∀ {S : List Pl}, okT n S → R <+: S → R <+: actF n fl S ops := by
  induction ops with
  | nil => intro S _ h; exact h
  | cons o r ih => intro S h hp; exact ih (actS_ok h) (actS_pre h hp hf)
/-- Back undoes -/
theorem undone {n : Nat} {R : List Pl} {d : Int} {S : List Pl} (hS : okT n S) (hp : R ++ [(⟨d, now R + 1, -1⟩ : Pl)] <+: S) :
    inR S (now R) ∧ cutR S (now R) = R ∧ R.length < S.length ∧ ∃ T, S = R ++ (⟨d, now R + 1, -1⟩ : Pl) :: T := by
  obtain ⟨T, rfl⟩ := hp
  have hl : R.length < (R ++ [(⟨d, now R + 1, -1⟩ : Pl)] ++ T).length := by simp
  have hg : (R ++ [(⟨d, now R + 1, -1⟩ : Pl)] ++ T)[R.length] = (⟨d, now R + 1, -1⟩ : Pl) := by simp
  have ht : (R ++ [(⟨d, now R + 1, -1⟩ : Pl)] ++ T).take R.length = R := by simp
  have hc := cut_take hS hl (by rw [hg]; rfl)
  rw [ht] at hc
  refine ⟨⟨by omega, ?_⟩, hc, hl, T, by simp⟩
  have h1 := now_split (R ++ [(⟨d, now R + 1, -1⟩ : Pl)] ++ T) R.length
  rw [ht] at h1
  omega
theorem valL_last {n : Nat} {R : List Pl} {d : Int} (h : refL n R d = 0) : valL n (R ++ [(⟨d, now R + 1, -1⟩ : Pl)]) d = 1 := by
  obtain ⟨h1, h2⟩ := refL_zero h
  have h3 := of_decide_eq_true h1
  unfold valL valV
  rw [if_pos h1, fnd_snoc (p := (⟨d, now R + 1, -1⟩ : Pl)) h2, if_pos (show d.natAbs = vr (⟨d, now R + 1, -1⟩ : Pl) from rfl)]
  simp only [sg]
  split <;> simp
theorem backO_undone {R T : List Pl} {d : Int} (h1 : inR (R ++ (⟨d, now R + 1, -1⟩ : Pl) :: T) (now R)) (h2 : cutR (R ++ (⟨d, now R + 1, -1⟩ : Pl) :: T) (now R) = R) :
    backO (R ++ (⟨d, now R + 1, -1⟩ : Pl) :: T) (now R) = (d :: T.map Pl.lit).reverse ∧ backF (R ++ (⟨d, now R + 1, -1⟩ : Pl) :: T) (now R) = R ∧ backE (R ++ (⟨d, now R + 1, -1⟩ : Pl) :: T) (now R) = 0 := by
  unfold backO backF backE
  rw [if_pos h1, if_pos h1, if_pos h1, Int.toNat_natCast, h2]
  refine ⟨?_, rfl, rfl⟩
  rw [List.drop_left]; rfl
end Go.Proofs.Ytjcgfigbbbefcaa
