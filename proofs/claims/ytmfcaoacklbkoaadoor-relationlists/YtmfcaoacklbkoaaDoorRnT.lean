/-
  Plain lists and lists of alternatives: what both readings say of one text (pure).
  KEEP: off c0 c1 c2 c3 c4 s0 s1 s2 s3 s4 newS rds lt f t q x len below nil form rd mono on one more out
-/
import Derived.Test.YtmfcaoacklbkoaaDoorRlW
import Derived.Test.YtmfcaoacklbkoaaDoorRmC
set_option linter.unusedSimpArgs false
set_option linter.unusedVariables false
namespace Go.Proofs.YtmfcaoacklbkoaaDoor
open Go Go.RowKit

theorem onD_pl {s n v : ByteArray} {o : Int} {g : Nat} (hg : g ≤ s.size) : g ≤ (onD s n o v g).k ∧ (onD s n o v g).k ≤ s.size := by
  unfold onD
  split
  · rename_i e
    have hlt := at_lt22 (by decide) e
    have h1 := runF_ge gapZ s.data.toList (g + 1)
    have h2 := runF_le22 gapZ s (k := g + 1) (by omega)
    exact ⟨by show g ≤ runF _ _ _; omega, h2⟩
  · exact ⟨Nat.le_refl _, hg⟩
theorem onC_pl {s n : ByteArray} {o : Int} {d : Nat} (hd : d ≤ s.size) : d ≤ (onC s n o d).k ∧ (onC s n o d).k ≤ s.size := by
  unfold onC
  simp only []
  split
  · exact ⟨Nat.le_refl _, hd⟩
  split
  · exact ⟨Nat.le_refl _, hd⟩
  have hf := runF_le22 wrdZ s hd
  have hf2 := runF_ge wrdZ s.data.toList d
  have hg := runF_le22 gapZ s hf
  have hg2 := runF_ge gapZ s.data.toList (runF wrdZ s.data.toList d)
  obtain ⟨h1, h2⟩ := onD_pl (s := s) (n := n) (o := o) (v := s.extract d (runF wrdZ s.data.toList d)) hg
  exact ⟨by omega, h2⟩
theorem onB_pl {s n : ByteArray} {b : Nat} (hb : b ≤ s.size) : b ≤ (onB s n b).k ∧ (onB s n b).k ≤ s.size := by
  unfold onB
  simp only []
  split
  · exact ⟨Nat.le_refl _, hb⟩
  have hf := runF_le22 sgnZ s hb
  have hf2 := runF_ge sgnZ s.data.toList b
  have hg := runF_le22 gapZ s hf
  have hg2 := runF_ge gapZ s.data.toList (runF sgnZ s.data.toList b)
  obtain ⟨h1, h2⟩ := onC_pl (s := s) (n := n) (o := opF (s.extract b (runF sgnZ s.data.toList b))) hg
  exact ⟨by omega, h2⟩
theorem onA_pl {s n : ByteArray} {a : Nat} (ha : a ≤ s.size) : a ≤ (onA s n a).k ∧ (onA s n a).k ≤ s.size := by
  unfold onA
  split
  · rename_i e
    have hlt := at_lt22 (by decide) e
    have h1 := runF_ge gapZ s.data.toList (a + 1)
    have h2 := runF_le22 gapZ s (k := a + 1) (by omega)
    obtain ⟨h3, h4⟩ := onB_pl (s := s) (n := n) h2
    exact ⟨by omega, h4⟩
  · exact ⟨Nat.le_refl _, ha⟩
theorem one_pl {s : ByteArray} {k : Nat} (hk : k ≤ s.size) : k ≤ (oneF s k).k ∧ (oneF s k).k ≤ s.size := by
  unfold oneF
  simp only []
  split
  · exact ⟨Nat.le_refl _, hk⟩
  split
  · exact ⟨Nat.le_refl _, hk⟩
  have ht := runF_le22 wrdZ s hk
  have ht2 := runF_ge wrdZ s.data.toList k
  have ha := runF_le22 gapZ s ht
  have ha2 := runF_ge gapZ s.data.toList (runF wrdZ s.data.toList k)
  obtain ⟨h1, h2⟩ := onA_pl (s := s) (n := s.extract k (runF wrdZ s.data.toList k)) ha
  exact ⟨by omega, h2⟩
/-- where a fault lies -/
theorem lst_bad {s : ByteArray} {bars : Bool} : ∀ (f k : Nat) (out : List (List Rl)) (now : List Rl) (p : Int × Int), k ≤ s.size → lstS s bars f k out now = .error p → p.1 ≠ 0 ∧ (k : Int) ≤ p.2 ∧ p.2 ≤ s.size
  | 0, k, out, now, p, hk, h => by cases h
  | f + 1, k, out, now, p, hk, h => by
    obtain ⟨h1, h2⟩ := one_pl hk
    rw [lstS] at h
    split at h
    · rename_i he
      injection h with h
      subst h
      exact ⟨he, by simp only; omega, by simp only; omega⟩
    rename_i he
    split at h
    · rename_i hb
      obtain ⟨h3, h4⟩ := next22_lt hk he (by decide) hb.1
      obtain ⟨q1, q2, q3⟩ := lst_bad f _ _ _ p h4 h
      exact ⟨q1, by omega, q3⟩
    split at h
    · cases h
    split at h
    · injection h with h
      subst h
      exact ⟨show (220 : Int) ≠ 0 by decide, by simp only; omega, by simp only; omega⟩
    · rename_i hc
      obtain ⟨h3, h4⟩ := next22_lt hk he (by decide) (Classical.not_not.1 hc)
      obtain ⟨q1, q2, q3⟩ := lst_bad f _ _ _ p h4 h
      exact ⟨q1, by omega, q3⟩
/-- the lists that are done stay, and the one that is being read grows -/
theorem lst_grows {s : ByteArray} : ∀ (f k : Nat) (out : List (List Rl)) (now : List Rl) (l : List (List Rl)), k ≤ s.size → s.size < k + f → lstS s true f k out now = .ok l → ∃ x, x ∈ l ∧ now.length < x.length
  | 0, k, out, now, l, hk, hf, h => by omega
  | f + 1, k, out, now, l, hk, hf, h => by
    rw [lstS] at h
    split at h
    · cases h
    rename_i he
    split at h
    · rename_i hb
      obtain ⟨h3, h4⟩ := next22_lt hk he (by decide) hb.1
      obtain ⟨x, x1, x2⟩ := lst_grows f _ _ _ l h4 (by omega) h
      exact ⟨x, x1, by simp at x2; omega⟩
    split at h
    · injection h with h
      subst h
      exact ⟨now ++ [((oneF s k).n, (oneF s k).o, (oneF s k).v)], by simp, by simp⟩
    split at h
    · cases h
    · rename_i hc
      obtain ⟨h3, h4⟩ := next22_lt hk he (by decide) (Classical.not_not.1 hc)
      exact lst_has f _ _ _ l h4 (by omega) h (now ++ [((oneF s k).n, (oneF s k).o, (oneF s k).v)]) (by simp) (by simp)
  where
  lst_has {s : ByteArray} : ∀ (f k : Nat) (out : List (List Rl)) (now : List Rl) (l : List (List Rl)), k ≤ s.size → s.size < k + f → lstS s true f k out now = .ok l → ∀ y, y ∈ out → ∀ {n : Nat}, n < y.length → ∃ x, x ∈ l ∧ n < x.length := by
    intro f
    induction f with
    | zero => intro k out now l hk hf; omega
    | succ f ih =>
      intro k out now l hk hf h y hy n hn
      rw [lstS] at h
      split at h
      · cases h
      rename_i he
      split at h
      · rename_i hb
        obtain ⟨h3, h4⟩ := next22_lt hk he (by decide) hb.1
        exact ih _ _ _ l h4 (by omega) h y hy hn
      split at h
      · injection h with h
        subst h
        exact ⟨y, List.mem_append_left _ hy, hn⟩
      split at h
      · cases h
      · rename_i hc
        obtain ⟨h3, h4⟩ := next22_lt hk he (by decide) (Classical.not_not.1 hc)
        exact ih _ _ _ l h4 (by omega) h y (List.mem_append_left _ hy) hn
/-- both readings from a place on -/
theorem lst_both {s : ByteArray} : ∀ (f k : Nat) (out : List (List Rl)), k ≤ s.size → s.size < k + f → (∀ x ∈ out, x.length = 1) →
    (∀ p, lstS s true f k out [] = .error p → ∃ p', lstS s false f k out [] = .error p' ∧ p'.1 ≠ 0 ∧ p'.2 ≤ p.2) ∧
    (∀ l, lstS s true f k out [] = .ok l → (lstS s false f k out [] = .ok l ∧ ∀ x ∈ l, x.length = 1) ∨ (∃ q : Nat, lstS s false f k out [] = .error (220, (q : Int)) ∧ q < s.size ∧ atB s q = 124 ∧ ∃ x ∈ l, x.length ≠ 1))
  | 0, k, out, hk, hf, ho => by omega
  | f + 1, k, out, hk, hf, ho => by
    rw [lstS, lstS]
    by_cases he : (oneF s k).e ≠ 0
    · rw [if_pos he, if_pos he]
      exact ⟨fun p h => ⟨p, h, by injection h with h; subst h; exact he, by injection h with h; subst h; exact Int.le_refl _⟩, fun l h => by cases h⟩
    rw [if_neg he, if_neg he]
    by_cases hb : atB s (oneF s k).k = 124
    · have hlt := at_lt22 (by decide) hb
      obtain ⟨h3, h4⟩ := next22_lt hk he (by decide) hb
      have h5 := runF_ge gapZ s.data.toList ((oneF s k).k + 1)
      rw [if_pos ⟨hb, rfl⟩, if_neg (show ¬ (atB s (oneF s k).k = 124 ∧ false = true) by rintro ⟨_, h⟩; cases h), if_neg (by omega), if_pos (by rw [hb]; decide)]
      refine ⟨fun p h => ⟨_, rfl, show (220 : Int) ≠ 0 by decide, ?_⟩, fun l h => .inr ⟨_, rfl, hlt, hb, ?_⟩⟩
      · have := (lst_bad f _ _ _ p h4 h).2.1
        show ((oneF s k).k : Int) ≤ _
        omega
      · obtain ⟨x, x1, x2⟩ := lst_grows f _ _ _ l h4 (by omega) h
        exact ⟨x, x1, by simp at x2; omega⟩
    · rw [if_neg (fun h => hb h.1), if_neg (show ¬ (atB s (oneF s k).k = 124 ∧ false = true) by rintro ⟨_, h⟩; cases h)]
      by_cases hs : s.size ≤ (oneF s k).k
      · rw [if_pos hs, if_pos hs]
        refine ⟨fun p h => (by cases h), fun l h => .inl ⟨h, fun x hx => ?_⟩⟩
        injection h with h
        subst h
        rcases List.mem_append.1 hx with hx | hx
        · exact ho x hx
        · obtain rfl := List.mem_singleton.1 hx
          rfl
      · rw [if_neg hs, if_neg hs]
        by_cases hc : atB s (oneF s k).k ≠ 44
        · rw [if_pos hc, if_pos hc]
          exact ⟨fun p h => ⟨p, h, by injection h with h; subst h; exact (show (220 : Int) ≠ 0 by decide), by injection h with h; subst h; exact Int.le_refl _⟩, fun l h => by cases h⟩
        · rw [if_neg hc, if_neg hc]
          obtain ⟨h3, h4⟩ := next22_lt hk he (by decide) (Classical.not_not.1 hc)
          refine lst_both f _ _ h4 (by omega) (fun x hx => ?_)
          rcases List.mem_append.1 hx with hx | hx
          · exact ho x hx
          · obtain rfl := List.mem_singleton.1 hx
            rfl
theorem lstF_both (s : ByteArray) :
    (∀ p, lstF s true = .error p → ∃ p', lstF s false = .error p' ∧ p'.1 ≠ 0 ∧ p'.2 ≤ p.2) ∧
    (∀ l, lstF s true = .ok l → (lstF s false = .ok l ∧ ∀ x ∈ l, x.length = 1) ∨ (∃ q : Nat, lstF s false = .error (220, (q : Int)) ∧ q < s.size ∧ atB s q = 124 ∧ ∃ x ∈ l, x.length ≠ 1)) := by
  unfold lstF
  by_cases h : runF gapZ s.data.toList 0 = s.size
  · rw [if_pos h, if_pos h]
    exact ⟨fun p h => (by cases h), fun l h => .inl ⟨h, fun x hx => by injection h with h; subst h; cases hx⟩⟩
  · rw [if_neg h, if_neg h]
    exact lst_both _ _ _ (runF_le22 gapZ s (Nat.zero_le _)) (by omega) (fun x hx => by cases hx)
theorem flat_ones : ∀ {l : List (List Rl)}, (∀ x ∈ l, x.length = 1) → l.map (fun x => x.headD noRl) = l.flatten
  | [], _ => rfl
  | x :: q, h => by
    have h1 := h x (List.mem_cons_self ..)
    obtain ⟨r, rfl⟩ := List.length_eq_one_iff.1 h1
    rw [List.map_cons, List.flatten_cons, flat_ones fun y hy => h y (List.mem_cons_of_mem _ hy)]
    rfl

end Go.Proofs.YtmfcaoacklbkoaaDoor
