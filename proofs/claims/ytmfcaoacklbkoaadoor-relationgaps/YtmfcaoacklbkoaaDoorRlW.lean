/-
  Several relations, one behind the other, and lists of them, as the program reads them: the same as the document's lists (pure).
  KEEP: off c0 c1 c2 c3 c4 s0 s1 s2 s3 s4 newS rds lt f t q x len below nil form rd mono on app start at new trans refl kept own row out set one more lt size cell some none
-/
import Derived.Test.YtmfcaoacklbkoaaDoorRlE
set_option linter.unusedSimpArgs false
set_option linter.unusedVariables false
namespace Go.Proofs.YtmfcaoacklbkoaaDoor
open Go Go.RowKit

def rlO (r : On1) : Rl := (r.n, r.o, r.v)
/-- relations with a byte between each two: what is read, and the place behind it -/
def sevF (s : ByteArray) (Z : Int) : Nat → Nat → List Rl → Except (Int × Nat) (List Rl × Nat)
  | 0, k, now => .error (220, k)
  | f + 1, k, now =>
    if (oneF s k).e ≠ 0 then .error ((oneF s k).e, (oneF s k).k)
    else if atB s (oneF s k).k = Z then sevF s Z f (runF gapZ s.data.toList ((oneF s k).k + 1)) (now ++ [rlO (oneF s k)])
    else .ok (now ++ [rlO (oneF s k)], (oneF s k).k)
/-- lists of alternatives with commas between -/
def lsF (s : ByteArray) : Nat → Nat → List (List Rl) → Except (Int × Nat) (List (List Rl) × Nat)
  | 0, k, out => .error (220, k)
  | f + 1, k, out =>
    match sevF s 124 (s.size + 1) k [] with
    | .error e => .error e
    | .ok p => if atB s p.2 = 44 then lsF s f (runF gapZ s.data.toList (p.2 + 1)) (out ++ [p.1]) else .ok (out ++ [p.1], p.2)
/-- up to the end of the text -/
def whF {α : Type} (s : ByteArray) (R : Except (Int × Nat) (List α × Nat)) : Except (Int × Int) (List α) :=
  match R with
  | .error e => .error (e.1, (e.2 : Int))
  | .ok p => if s.size ≤ p.2 then .ok p.1 else .error (220, (p.2 : Int))

theorem runF_stop2 {p : Int → Bool} {s : ByteArray} {k : Nat} (h : k ≤ s.size) : runF p s.data.toList (runF p s.data.toList k) = runF p s.data.toList k := by
  induction hn : s.size - k generalizing k with
  | zero =>
    have e : k = s.size := by omega
    have := runF_end p s.data.toList k (by rw [size20]; omega)
    rw [this, this]
  | succ n ih =>
    have hlt : k < s.size := by omega
    cases hb : p ((s[k]'hlt).toNat : Int)
    · rw [runF_no hlt hb, runF_no hlt hb]
    · rw [runF_yes hlt hb]; exact ih (by omega) (by omega)
theorem one_gap {s : ByteArray} {k : Nat} (hk : k ≤ s.size) (h : (oneF s k).e = 0) : runF gapZ s.data.toList (oneF s k).k = (oneF s k).k := by
  unfold oneF at h ⊢
  simp only [] at h ⊢
  split at h
  · exact absurd h (show ¬ (220 : Int) = 0 by decide)
  rename_i h1
  rw [if_neg h1]
  split at h
  · exact absurd h (show ¬ (230 : Int) = 0 by decide)
  rename_i h2
  rw [if_neg h2]
  have ht := runF_le22 wrdZ s hk
  have ha := runF_le22 gapZ s ht
  unfold onA at h ⊢
  split at h
  · rename_i e
    rw [if_pos e]
    have hlt : runF gapZ s.data.toList (runF wrdZ s.data.toList k) < s.size := by
      apply Classical.byContradiction
      intro hn; rw [atB_out hn] at e; cases e
    have hb := runF_le22 gapZ s (k := runF gapZ s.data.toList (runF wrdZ s.data.toList k) + 1) (by omega)
    unfold onB at h ⊢
    simp only [] at h ⊢
    split at h
    · exact absurd h (show ¬ (220 : Int) = 0 by decide)
    rename_i h3
    rw [if_neg h3]
    have hc := runF_le22 sgnZ s hb
    have hd := runF_le22 gapZ s hc
    unfold onC at h ⊢
    simp only [] at h ⊢
    split at h
    · exact absurd h (show ¬ (220 : Int) = 0 by decide)
    rename_i h4
    rw [if_neg h4]
    split at h
    · exact absurd h (show ¬ (200 : Int) = 0 by decide)
    rename_i h5
    rw [if_neg h5]
    have hf := runF_le22 wrdZ s hd
    have hg := runF_le22 gapZ s hf
    obtain ⟨e2, hlt2⟩ := onD_ok hg h
    rw [e2]
    exact runF_stop2 (by omega)
  · rename_i e
    rw [if_neg e]
    exact runF_stop2 ht
theorem at_lt22 {s : ByteArray} {k : Nat} {Z : Int} (h0 : 0 ≤ Z) (h : atB s k = Z) : k < s.size := by
  apply Classical.byContradiction
  intro hn; rw [atB_out hn] at h; omega
theorem next22_lt {s : ByteArray} {k : Nat} (hk : k ≤ s.size) (he : ¬ (oneF s k).e ≠ 0) {Z : Int} (h0 : 0 ≤ Z) (h : atB s (oneF s k).k = Z) :
    k < runF gapZ s.data.toList ((oneF s k).k + 1) ∧ runF gapZ s.data.toList ((oneF s k).k + 1) ≤ s.size := by
  obtain ⟨_, _, h1, h2⟩ := one_ok22 hk (Classical.not_not.1 he)
  have h3 := at_lt22 h0 h
  have h4 := runF_ge gapZ s.data.toList ((oneF s k).k + 1)
  exact ⟨by omega, runF_le22 gapZ s (by omega)⟩
/-- fuel that is enough says the same -/
theorem lst_fuel {s : ByteArray} {bars : Bool} : ∀ (f g k : Nat) (out : List (List Rl)) (now : List Rl), k ≤ s.size → s.size < k + f → s.size < k + g → lstS s bars f k out now = lstS s bars g k out now
  | 0, g, k, out, now, hk, hf, hg => by omega
  | f + 1, 0, k, out, now, hk, hf, hg => by omega
  | f + 1, g + 1, k, out, now, hk, hf, hg => by
    rw [lstS, lstS]
    split
    · rfl
    rename_i he
    split
    · rename_i hb
      obtain ⟨h1, h2⟩ := next22_lt hk he (by decide) hb.1
      exact lst_fuel f g _ _ _ h2 (by omega) (by omega)
    split
    · rfl
    rename_i hns
    split
    · rfl
    · rename_i hc
      obtain ⟨h1, h2⟩ := next22_lt hk he (by decide) (Classical.not_not.1 hc)
      exact lst_fuel f g _ _ _ h2 (by omega) (by omega)
/-- the alternatives of one list -/
theorem lst_sev {s : ByteArray} : ∀ (f g k : Nat) (out : List (List Rl)) (now : List Rl), k ≤ s.size → s.size < k + f → s.size < k + g →
    lstS s true f k out now = (match sevF s 124 g k now with
      | .error e => .error (e.1, (e.2 : Int))
      | .ok p => if s.size ≤ p.2 then .ok (out ++ [p.1]) else if atB s p.2 ≠ 44 then .error (220, (p.2 : Int)) else lstS s true (s.size + 1) (runF gapZ s.data.toList (p.2 + 1)) (out ++ [p.1]) [])
  | 0, g, k, out, now, hk, hf, hg => by omega
  | f + 1, 0, k, out, now, hk, hf, hg => by omega
  | f + 1, g + 1, k, out, now, hk, hf, hg => by
    rw [lstS, sevF]
    split
    · rfl
    rename_i he
    by_cases hb : atB s (oneF s k).k = 124
    · rw [if_pos ⟨hb, rfl⟩, if_pos hb]
      obtain ⟨h1, h2⟩ := next22_lt hk he (by decide) hb
      exact lst_sev f g _ _ _ h2 (by omega) (by omega)
    rw [if_neg (fun h => hb h.1), if_neg hb]
    simp only []
    split
    · rfl
    split
    · rfl
    rename_i hc
    obtain ⟨h1, h2⟩ := next22_lt hk he (by decide) (Classical.not_not.1 hc)
    exact lst_fuel _ _ _ _ _ h2 (by omega) (by omega)
theorem sev_ok {s : ByteArray} {Z : Int} (hZ : 0 ≤ Z) : ∀ (f k : Nat) (now : List Rl) (p : List Rl × Nat), k ≤ s.size → sevF s Z f k now = .ok p → k < p.2 ∧ p.2 ≤ s.size ∧ runF gapZ s.data.toList p.2 = p.2 ∧ p.1.length ≤ now.length + (p.2 - k)
  | 0, k, now, p, hk, h => by cases h
  | f + 1, k, now, p, hk, h => by
    rw [sevF] at h
    split at h
    · cases h
    rename_i he
    split at h
    · rename_i hb
      obtain ⟨h1, h2⟩ := next22_lt hk he hZ hb
      obtain ⟨q1, q2, q3, q4⟩ := sev_ok hZ f _ _ p h2 h
      refine ⟨by omega, q2, q3, ?_⟩
      rw [List.length_append] at q4
      simp only [List.length_cons, List.length_nil] at q4
      omega
    · injection h with h
      subst h
      obtain ⟨_, _, h1, h2⟩ := one_ok22 hk (Classical.not_not.1 he)
      refine ⟨h1, h2, one_gap hk (Classical.not_not.1 he), ?_⟩
      rw [List.length_append]
      simp only [List.length_cons, List.length_nil]
      omega
theorem lst_ls {s : ByteArray} : ∀ (f k : Nat) (out : List (List Rl)), k ≤ s.size → s.size < k + f → lstS s true (s.size + 1) k out [] = whF s (lsF s f k out)
  | 0, k, out, hk, hf => by omega
  | f + 1, k, out, hk, hf => by
    rw [lst_sev (s.size + 1) (s.size + 1) k out [] hk (by omega) (by omega), lsF]
    cases h : sevF s 124 (s.size + 1) k [] with
    | error e => rfl
    | ok p =>
      simp only []
      obtain ⟨h1, h2, h3, h4⟩ := sev_ok (by decide) _ _ _ _ hk h
      by_cases hc : atB s p.2 = 44
      · have hlt := at_lt22 (by decide) hc
        have h5 := runF_ge gapZ s.data.toList (p.2 + 1)
        rw [if_pos hc, if_neg (by omega), if_neg (fun q => q hc)]
        exact lst_ls f _ _ (runF_le22 gapZ s (by omega)) (by omega)
      · rw [if_neg hc, if_pos hc]
        rfl
theorem lstF_true (s : ByteArray) : lstF s true = if runF gapZ s.data.toList 0 = s.size then .ok [] else whF s (lsF s (s.size + 1) (runF gapZ s.data.toList 0) []) := by
  unfold lstF
  split
  · rfl
  · exact lst_ls _ _ _ (runF_le22 gapZ s (Nat.zero_le _)) (by omega)
/-- plain lists -/
theorem lst_plain {s : ByteArray} : ∀ (f g k : Nat) (now : List Rl), k ≤ s.size → s.size < k + f → s.size < k + g →
    lstS s false f k (now.map (fun r => [r])) [] = (match sevF s 44 g k now with
      | .error e => .error (e.1, (e.2 : Int))
      | .ok p => if s.size ≤ p.2 then .ok (p.1.map (fun r => [r])) else .error (220, (p.2 : Int)))
  | 0, g, k, now, hk, hf, hg => by omega
  | f + 1, 0, k, now, hk, hf, hg => by omega
  | f + 1, g + 1, k, now, hk, hf, hg => by
    rw [lstS, sevF]
    split
    · rfl
    rename_i he
    rw [if_neg (by rintro ⟨_, h⟩; cases h)]
    by_cases hb : atB s (oneF s k).k = 44
    · obtain ⟨h1, h2⟩ := next22_lt hk he (by decide) hb
      have hlt := at_lt22 (by decide) hb
      rw [if_pos hb, if_neg (by omega), if_neg (fun q => q hb)]
      have := lst_plain f g _ (now ++ [rlO (oneF s k)]) h2 (by omega) (by omega)
      rw [← this, List.map_append]
      rfl
    · rw [if_neg hb]
      simp only []
      split
      · rw [List.map_append]; rfl
      · first | rfl | rw [if_pos hb]
theorem lstF_false (s : ByteArray) : lstF s false = if runF gapZ s.data.toList 0 = s.size then .ok [] else (match whF s (sevF s 44 (s.size + 1) (runF gapZ s.data.toList 0) []) with | .error e => .error e | .ok l => .ok (l.map (fun r => [r]))) := by
  unfold lstF
  split
  · rfl
  · have := lst_plain (s.size + 1) (s.size + 1) (runF gapZ s.data.toList 0) [] (runF_le22 gapZ s (Nat.zero_le _)) (by omega) (by omega)
    refine Eq.trans this ?_
    cases h : sevF s 44 (s.size + 1) (runF gapZ s.data.toList 0) [] with
    | error e => rfl
    | ok p =>
      simp only [whF]
      split <;> rfl

end Go.Proofs.YtmfcaoacklbkoaaDoor
