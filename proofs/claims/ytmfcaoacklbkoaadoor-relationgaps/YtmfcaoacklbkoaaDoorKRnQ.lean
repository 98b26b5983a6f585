/-
  What is written of relations is read as the same (pure): one relation, alternatives, lists, plain lists.
  KEEP: off c0 c1 c2 c3 c4 s0 s1 s2 s3 s4 newS rds lt f t q x len below nil form rd mono on app start at new trans refl kept own row out set one more size cell some none run run0 head next ext
-/
import Derived.Test.YtmfcaoacklbkoaaDoorKRnP
set_option linter.unusedSimpArgs false
set_option linter.unusedVariables false
namespace Go.Proofs.YtmfcaoacklbkoaaDoor
open Go Go.RowKit

/-- a relation's text -/
def txL (r : Rl) : List UInt8 := (txtB r.1 r.2.1 r.2.2).data.toList
theorem txL_zero (n v : ByteArray) : txL (n, 0, v) = n.data.toList := by unfold txL txtB; rw [if_pos rfl]
theorem txL_op {n v : ByteArray} {o : Int} (h : o ≠ 0) : txL (n, o, v) = n.data.toList ++ ([32, 40] ++ ((sgF o).data.toList ++ ([32] ++ (v.data.toList ++ [41])))) := by
  unfold txL txtB
  rw [if_neg h]
  simp
theorem sgF_sgn {o : Int} (h : opK o = true) : (sgF o).data.toList ≠ [] ∧ ∀ b ∈ (sgF o).data.toList, sgnZ b.toNat = true := by
  have h1 := of_decide_eq_true h
  have h5 : o = 1 ∨ o = 2 ∨ o = 3 ∨ o = 4 ∨ o = 5 := by omega
  rcases h5 with rfl | rfl | rfl | rfl | rfl
  all_goals exact ⟨by decide, by decide⟩
theorem gap_of_sgn {z : Int} (h : sgnZ z = true) : gapZ z = false := by
  unfold sgnZ at h
  unfold gapZ
  simp at h ⊢
  omega
/-- a byte ahead of which no gap stands -/
theorem spn_first {p : Int → Bool} {X R : List UInt8} (hne : X ≠ []) (h : ∀ b ∈ X, p b.toNat = false) : spn p (X ++ R) = 0 := by
  cases X with
  | nil => exact absurd rfl hne
  | cons b r => exact spn_no (h b (List.mem_cons_self ..))
/-- what stands behind a relation: nothing, or no word and no bracket behind gaps -/
def Bhd (R : List UInt8) : Prop := (R = [] ∨ ∃ b r, R = b :: r ∧ wrdZ b.toNat = false) ∧ hdZ (R.drop (spn gapZ R)) ≠ 40
theorem one_txt {s : ByteArray} {k : Nat} {n v : ByteArray} {o : Int} {R : List UInt8} (h : AtL s k (txL (n, o, v) ++ R)) (hf : relB n o v = true) (hR : Bhd R) :
    oneF s k = ⟨n, o, v, 0, k + (txL (n, o, v)).length + spn gapZ R⟩ := by
  have hop := hf
  unfold relB at hop
  rw [Bool.and_eq_true] at hop
  obtain ⟨hn1, hv1⟩ := hop
  obtain ⟨hne, hw⟩ := rnm_wrd hn1
  by_cases h0 : o = 0
  · subst h0
    rw [if_pos rfl] at hv1
    have hv : v = ⟨#[]⟩ := by
      cases v with
      | mk d => simp at hv1; rw [hv1]
    subst hv
    rw [txL_zero] at h ⊢
    have ht : runF wrdZ s.data.toList k = k + n.size := by rw [h.run wrdZ hw, spn_stop hR.1, size20]; rfl
    have hnx := h.next
    rw [size20] at hnx ⊢
    have he : s.extract k (k + n.size) = n := h.ext
    have hpos : 0 < n.size := by rw [← size20]; exact List.length_pos_iff.2 hne
    have ha : runF gapZ s.data.toList (k + n.size) = k + n.size + spn gapZ R := hnx.run0 gapZ
    have hat : AtL s (k + n.size + spn gapZ R) (R.drop (spn gapZ R)) := by
      have e := hnx
      rw [← List.take_append_drop (spn gapZ R) R] at e
      have := e.next
      rwa [List.length_take, Nat.min_eq_left (spn_le _ _)] at this
    unfold oneF
    simp only [ht, he]
    rw [if_neg (by omega), if_neg (by rw [hn1]; simp), onA, ha, if_neg (by rw [hat.head]; exact hR.2)]
  · rw [if_neg h0, sgF_emp, Bool.not_not, Bool.and_eq_true] at hv1
    obtain ⟨hk, hok⟩ := hv1
    obtain ⟨hvn, hvw⟩ := ok_wrd hok
    obtain ⟨hsn, hsw⟩ := sgF_sgn hk
    have h15 := of_decide_eq_true hk
    rw [txL_op h0] at h ⊢
    simp only [List.append_assoc, List.length_append, List.length_cons, List.length_nil] at h ⊢
    generalize hS : sgF o = S at *
    have hoS : opF S = o := by rw [← hS]; exact opTs h15.1 h15.2
    have hSz : S.data.toList.length = S.size := size20 S
    have hVz : v.data.toList.length = v.size := size20 v
    have hNz : n.data.toList.length = n.size := size20 n
    -- the name
    have ht : runF wrdZ s.data.toList k = k + n.size := by rw [h.run wrdZ hw, hNz]; rfl
    have h1 := h.next
    rw [hNz] at h1
    have he : s.extract k (k + n.size) = n := h.ext
    have hpos : 0 < n.size := by rw [← hNz]; exact List.length_pos_iff.2 hne
    have ha : runF gapZ s.data.toList (k + n.size) = k + n.size + 1 := by rw [h1.run0 gapZ]; rfl
    have h1' : AtL s (k + n.size) ([32] ++ ([40] ++ (S.data.toList ++ ([32] ++ (v.data.toList ++ ([41] ++ R)))))) := h1
    have h2 : AtL s (k + n.size + 1) ([40] ++ (S.data.toList ++ ([32] ++ (v.data.toList ++ ([41] ++ R))))) := h1'.next
    have hb40 : atB s (k + n.size + 1) = 40 := by rw [h2.head]; rfl
    -- the bracket
    have h3 : AtL s (k + n.size + 1 + 1) (S.data.toList ++ ([32] ++ (v.data.toList ++ ([41] ++ R)))) := h2.next
    have hb : runF gapZ s.data.toList (k + n.size + 1 + 1) = k + n.size + 1 + 1 := by
      rw [h3.run0 gapZ, spn_first hsn fun b hb => gap_of_sgn (hsw b hb)]
    -- the operator
    have hc : runF sgnZ s.data.toList (k + n.size + 1 + 1) = k + n.size + 1 + 1 + S.size := by rw [h3.run sgnZ hsw, hSz]; rfl
    have hce : s.extract (k + n.size + 1 + 1) (k + n.size + 1 + 1 + S.size) = S := h3.ext
    have h4 := h3.next
    rw [hSz] at h4
    have hd : runF gapZ s.data.toList (k + n.size + 1 + 1 + S.size) = k + n.size + 1 + 1 + S.size + 1 := by
      have e : spn gapZ (v.data.toList ++ ([41] ++ R)) = 0 := spn_first hvn fun b hb => gap_of_wrd (hvw b hb)
      rw [h4.run0 gapZ]
      show _ + (spn gapZ (32 :: (v.data.toList ++ ([41] ++ R)))) = _
      rw [spn_yes (by rfl), e]
    have h5 : AtL s (k + n.size + 1 + 1 + S.size + 1) (v.data.toList ++ ([41] ++ R)) := h4.next
    -- the version
    have hf2 : runF wrdZ s.data.toList (k + n.size + 1 + 1 + S.size + 1) = k + n.size + 1 + 1 + S.size + 1 + v.size := by rw [h5.run wrdZ hvw, hVz]; rfl
    have hfe : s.extract (k + n.size + 1 + 1 + S.size + 1) (k + n.size + 1 + 1 + S.size + 1 + v.size) = v := h5.ext
    have hvpos : 0 < v.size := by rw [← hVz]; exact List.length_pos_iff.2 hvn
    have h6 := h5.next
    rw [hVz] at h6
    have hg : runF gapZ s.data.toList (k + n.size + 1 + 1 + S.size + 1 + v.size) = k + n.size + 1 + 1 + S.size + 1 + v.size := by rw [h6.run0 gapZ]; rfl
    have hg41 : atB s (k + n.size + 1 + 1 + S.size + 1 + v.size) = 41 := by rw [h6.head]; rfl
    have h7 : AtL s (k + n.size + 1 + 1 + S.size + 1 + v.size + 1) R := h6.next
    have hk2 : runF gapZ s.data.toList (k + n.size + 1 + 1 + S.size + 1 + v.size + 1) = k + n.size + 1 + 1 + S.size + 1 + v.size + 1 + spn gapZ R := h7.run0 gapZ
    unfold oneF
    simp only [ht, he]
    rw [if_neg (by omega), if_neg (by rw [hn1]; simp), onA, ha, if_pos hb40, onB, hb]
    simp only [hc, hce, hoS]
    rw [if_neg h0, onC, hd]
    simp only [hf2, hfe]
    rw [if_neg (by omega), if_neg (by rw [hok]; simp), onD, hg, if_pos hg41, hk2]
    congr 1
    omega

/-- relations with a text between each two; from number k on -/
def wsL (sep : List UInt8) : Nat → List Rl → List UInt8
  | _, [] => []
  | k, r :: q => (if k = 0 then [] else sep) ++ (txL r ++ wsL sep (k + 1) q)
theorem wrT_list (sep : ByteArray) : ∀ (rs : List Rl) (k : Nat) (acc : ByteArray), (wrT sep k acc rs).data.toList = acc.data.toList ++ wsL sep.data.toList k rs
  | [], k, acc => by simp [wrT, wsL]
  | r :: q, k, acc => by
    rw [wrT, wrT_list sep q, wsL]
    unfold txL
    split <;> simp
def lwL : Nat → List (List Rl) → List UInt8
  | _, [] => []
  | k, rs :: q => (if k = 0 then [] else [44, 32]) ++ (wsL [32, 124, 32] 0 rs ++ lwL (k + 1) q)
theorem lisT_list : ∀ (l : List (List Rl)) (k : Nat) (acc T : ByteArray), lisT k acc l = some T → T.data.toList = acc.data.toList ++ lwL k l ∧ ∀ rs ∈ l, rs ≠ [] ∧ frmB rs = true
  | [], k, acc, T, h => by
    injection h with h
    subst h
    exact ⟨by simp [lwL], fun rs h => by cases h⟩
  | rs :: q, k, acc, T, h => by
    rw [lisT, altT_wr] at h
    split at h
    · cases h
    rename_i hne
    cases hf : frmB rs
    · rw [hf] at h; cases h
    rw [hf, if_pos rfl] at h
    obtain ⟨h1, h2⟩ := lisT_list q _ _ _ h
    refine ⟨?_, fun x hx => ?_⟩
    · rw [h1, wrT_list, lwL]
      split <;> simp
    · rcases List.mem_cons.1 hx with rfl | hx
      · exact ⟨hne, hf⟩
      · exact h2 x hx
theorem frm_head {r : Rl} {q : List Rl} (h : frmB (r :: q) = true) : relB r.1 r.2.1 r.2.2 = true ∧ frmB q = true := by
  rw [frmB_cons, Bool.and_eq_true] at h; exact h
theorem tx_first {r : Rl} (h : relB r.1 r.2.1 r.2.2 = true) (R : List UInt8) : spn gapZ (txL r ++ R) = 0 := by
  obtain ⟨n, o, v⟩ := r
  have h1 := h
  unfold relB at h1
  rw [Bool.and_eq_true] at h1
  obtain ⟨hne, hw⟩ := rnm_wrd h1.1
  have e : ∃ Y, txL (n, o, v) = n.data.toList ++ Y := by
    by_cases h0 : o = 0
    · subst h0; exact ⟨[], by rw [txL_zero]; simp⟩
    · exact ⟨_, txL_op h0⟩
  obtain ⟨Y, e⟩ := e
  rw [e, List.append_assoc]
  exact spn_first hne fun b hb => gap_of_wrd (hw b hb)
theorem tx_len {r : Rl} (h : relB r.1 r.2.1 r.2.2 = true) : 0 < (txL r).length := by
  obtain ⟨n, o, v⟩ := r
  have h1 := h
  unfold relB at h1
  rw [Bool.and_eq_true] at h1
  obtain ⟨hne, hw⟩ := rnm_wrd h1.1
  have hp := List.length_pos_iff.2 hne
  by_cases h0 : o = 0
  · subst h0; rw [txL_zero]; exact hp
  · rw [txL_op h0, List.length_append]; simp only at hp; omega
theorem bhd_nil : Bhd [] := ⟨.inl rfl, by decide⟩
theorem bhd_comma (R : List UInt8) : Bhd (44 :: R) := ⟨.inr ⟨_, _, rfl, rfl⟩, by rw [spn_no (by rfl)]; show ((44 : UInt8).toNat : Int) ≠ 40; decide⟩
theorem bhd_bar (R : List UInt8) : Bhd (32 :: 124 :: R) := ⟨.inr ⟨_, _, rfl, rfl⟩, by rw [spn_yes (by rfl), spn_no (by rfl)]; show ((124 : UInt8).toNat : Int) ≠ 40; decide⟩
theorem ws_num (sep : List UInt8) : ∀ (q : List Rl) (k m : Nat), wsL sep (k + 1) q = wsL sep (m + 1) q
  | [], k, m => rfl
  | x :: y, k, m => by
    show _ ++ (txL x ++ wsL _ (k + 1 + 1) y) = _ ++ (txL x ++ wsL _ (m + 1 + 1) y)
    rw [if_neg (by omega), if_neg (by omega), ws_num sep y (k + 1) (m + 1)]
/-- alternatives that were written, read: behind them nothing, or a comma -/
theorem alt_read {s : ByteArray} : ∀ (q : List Rl) (r : Rl) (f p : Nat) (out : List (List Rl)) (now : List Rl) (R : List UInt8), AtL s p (txL r ++ (wsL [32, 124, 32] 1 q ++ R)) → relB r.1 r.2.1 r.2.2 = true → frmB q = true → s.size < p + f → (R = [] ∨ ∃ R', R = 44 :: R') →
    (R = [] → lstS s true f p out now = .ok (out ++ [now ++ r :: q])) ∧ (∀ R', R = 44 :: R' → ∃ g, AtL s g R' ∧ p < g ∧ lstS s true f p out now = lstS s true (s.size + 1) (runF gapZ s.data.toList g) (out ++ [now ++ r :: q]) [])
  | [], r, 0, p, out, now, R, h, hr, hq, hf, hR => by have := h.2; omega
  | [], r, f + 1, p, out, now, R, h, hr, hq, hf, hR => by
    obtain ⟨n, o, v⟩ := r
    have h' : AtL s p (txL (n, o, v) ++ R) := h
    have hB : Bhd R := by
      rcases hR with rfl | ⟨R', rfl⟩
      · exact bhd_nil
      · exact bhd_comma R'
    have h1 := one_txt h' hr hB
    have h2 := h'.next
    have hz : spn gapZ R = 0 := by
      rcases hR with rfl | ⟨R', rfl⟩
      · rfl
      · exact spn_no (by rfl)
    rw [hz, Nat.add_zero] at h1
    have h3 := h2.len
    refine ⟨fun e => ?_, fun R' e => ?_⟩
    · subst e
      simp at h3
      rw [lstS, h1]
      simp only [ne_eq, not_true, if_false]
      rw [if_neg (by rw [h2.head]; rintro ⟨x, _⟩; exact absurd x (by decide)), if_pos (by omega)]
    · subst e
      simp at h3
      have h4 : AtL s (p + (txL (n, o, v)).length + 1) R' := (show AtL s (p + (txL (n, o, v)).length) ([44] ++ R') from h2).next
      refine ⟨_, h4, by omega, ?_⟩
      rw [lstS, h1]
      simp only [ne_eq, not_true, if_false]
      rw [if_neg (by rw [h2.head]; rintro ⟨x, _⟩; exact absurd x (show ¬ ((44 : UInt8).toNat : Int) = 124 by decide)), if_neg (by omega), if_neg (by rw [h2.head]; exact fun q => q rfl)]
      have h5 := runF_ge gapZ s.data.toList (p + (txL (n, o, v)).length + 1)
      exact lst_fuel _ _ _ _ _ (runF_le22 gapZ s h4.2) (by omega) (by omega)
  | r2 :: q, r, 0, p, out, now, R, h, hr, hq, hf, hR => by have := h.2; omega
  | r2 :: q, r, f + 1, p, out, now, R, h, hr, hq, hf, hR => by
    obtain ⟨n, o, v⟩ := r
    obtain ⟨hr2, hq2⟩ := frm_head hq
    have h' : AtL s p (txL (n, o, v) ++ (32 :: 124 :: (32 :: (txL r2 ++ (wsL [32, 124, 32] 2 q ++ R))))) := by
      have e : wsL [32, 124, 32] 1 (r2 :: q) = [32, 124, 32] ++ (txL r2 ++ wsL [32, 124, 32] 2 q) := rfl
      rw [e] at h
      simpa using h
    have h1 := one_txt h' hr (bhd_bar _)
    have hz : spn gapZ (32 :: 124 :: (32 :: (txL r2 ++ (wsL [32, 124, 32] 2 q ++ R)))) = 1 := by rw [spn_yes (by rfl), spn_no (by rfl)]
    rw [hz] at h1
    have h2 := h'.next
    have h3 : AtL s (p + (txL (n, o, v)).length + 1) (124 :: (32 :: (txL r2 ++ (wsL [32, 124, 32] 2 q ++ R)))) := (show AtL s _ ([32] ++ (124 :: (32 :: (txL r2 ++ (wsL [32, 124, 32] 2 q ++ R))))) from h2).next
    have h4 : AtL s (p + (txL (n, o, v)).length + 1 + 1) (32 :: (txL r2 ++ (wsL [32, 124, 32] 2 q ++ R))) := (show AtL s _ ([124] ++ (32 :: (txL r2 ++ (wsL [32, 124, 32] 2 q ++ R)))) from h3).next
    have h5 : AtL s (p + (txL (n, o, v)).length + 1 + 1 + 1) (txL r2 ++ (wsL [32, 124, 32] 2 q ++ R)) := (show AtL s _ ([32] ++ (txL r2 ++ (wsL [32, 124, 32] 2 q ++ R))) from h4).next
    have hg : runF gapZ s.data.toList (p + (txL (n, o, v)).length + 1 + 1) = p + (txL (n, o, v)).length + 1 + 1 + 1 := by
      rw [h4.run0 gapZ, spn_yes (by rfl), tx_first hr2]
    rw [ws_num _ q 1 0] at h5
    have hstep : lstS s true (f + 1) p out now = lstS s true f (p + (txL (n, o, v)).length + 1 + 1 + 1) out (now ++ [(n, o, v)]) := by
      rw [lstS, h1]
      simp only [ne_eq, not_true, if_false]
      rw [if_pos ⟨by rw [h3.head]; rfl, trivial⟩, hg]
    have ih := alt_read q r2 f _ out (now ++ [(n, o, v)]) R h5 hr2 hq2 (by omega) hR
    rw [hstep]
    refine ⟨fun e => by rw [ih.1 e]; simp, fun R' e => ?_⟩
    obtain ⟨g, g1, g2, g3⟩ := ih.2 R' e
    exact ⟨g, g1, by omega, by rw [g3]; simp⟩
theorem lw_num : ∀ (l : List (List Rl)) (k m : Nat), lwL (k + 1) l = lwL (m + 1) l
  | [], k, m => rfl
  | x :: y, k, m => by
    show _ ++ (_ ++ lwL (k + 1 + 1) y) = _ ++ (_ ++ lwL (m + 1 + 1) y)
    rw [if_neg (by omega), if_neg (by omega), lw_num y (k + 1) (m + 1)]
/-- lists that were written, read -/
theorem lists_read {s : ByteArray} : ∀ (l : List (List Rl)) (rs : List Rl) (f p : Nat) (out : List (List Rl)), AtL s p (wsL [32, 124, 32] 0 rs ++ lwL 1 l) → rs ≠ [] → frmB rs = true → (∀ x ∈ l, x ≠ [] ∧ frmB x = true) → s.size < p + f →
    lstS s true f p out [] = .ok (out ++ rs :: l)
  | [], rs, f, p, out, h, hne, hf, hl, hz => by
    obtain ⟨r, q, rfl⟩ : ∃ r q, rs = r :: q := by cases rs with | nil => exact absurd rfl hne | cons r q => exact ⟨r, q, rfl⟩
    obtain ⟨hr, hq⟩ := frm_head hf
    have h' : AtL s p (txL r ++ (wsL [32, 124, 32] 1 q ++ [])) := by
      have e : wsL [32, 124, 32] 0 (r :: q) = [] ++ (txL r ++ wsL [32, 124, 32] 1 q) := rfl
      rw [e] at h
      simpa [lwL] using h
    have := (alt_read q r f p out [] [] h' hr hq hz (.inl rfl)).1 rfl
    simpa using this
  | l1 :: l, rs, f, p, out, h, hne, hf, hl, hz => by
    obtain ⟨r, q, rfl⟩ : ∃ r q, rs = r :: q := by cases rs with | nil => exact absurd rfl hne | cons r q => exact ⟨r, q, rfl⟩
    obtain ⟨hr, hq⟩ := frm_head hf
    obtain ⟨hne1, hf1⟩ := hl l1 (List.mem_cons_self ..)
    have h' : AtL s p (txL r ++ (wsL [32, 124, 32] 1 q ++ (44 :: (32 :: (wsL [32, 124, 32] 0 l1 ++ lwL 2 l))))) := by
      have e : wsL [32, 124, 32] 0 (r :: q) = [] ++ (txL r ++ wsL [32, 124, 32] 1 q) := rfl
      have e2 : lwL 1 (l1 :: l) = [44, 32] ++ (wsL [32, 124, 32] 0 l1 ++ lwL 2 l) := rfl
      rw [e, e2] at h
      simpa using h
    obtain ⟨g, g1, g2, g3⟩ := (alt_read q r f p out [] _ h' hr hq hz (.inr ⟨_, rfl⟩)).2 _ rfl
    have g4 : AtL s (g + 1) (wsL [32, 124, 32] 0 l1 ++ lwL 2 l) := (show AtL s g ([32] ++ (wsL [32, 124, 32] 0 l1 ++ lwL 2 l)) from g1).next
    have e3 : lwL 2 l = lwL 1 l := lw_num l 1 0
    rw [e3] at g4
    have hg : runF gapZ s.data.toList g = g + 1 := by
      obtain ⟨r1, q1, rfl⟩ : ∃ r q, l1 = r :: q := by cases l1 with | nil => exact absurd rfl hne1 | cons r q => exact ⟨r, q, rfl⟩
      have e : wsL [32, 124, 32] 0 (r1 :: q1) = [] ++ (txL r1 ++ wsL [32, 124, 32] 1 q1) := rfl
      rw [g1.run0 gapZ, spn_yes (by rfl), e, List.nil_append, List.append_assoc, tx_first (frm_head hf1).1]
    have ih := lists_read l l1 (s.size + 1) (g + 1) (out ++ [r :: q]) g4 hne1 hf1 (fun x hx => hl x (List.mem_cons_of_mem _ hx)) (by omega)
    rw [g3, hg]
    rw [List.nil_append, ih]
    simp
/-- plain lists that were written, read -/
theorem plain_read {s : ByteArray} : ∀ (q : List Rl) (r : Rl) (f p : Nat) (out : List (List Rl)), AtL s p (txL r ++ wsL [44, 32] 1 q) → relB r.1 r.2.1 r.2.2 = true → frmB q = true → s.size < p + f →
    lstS s false f p out [] = .ok (out ++ (r :: q).map (fun x => [x]))
  | [], r, 0, p, out, h, hr, hq, hz => by have := h.2; omega
  | [], r, f + 1, p, out, h, hr, hq, hz => by
    obtain ⟨n, o, v⟩ := r
    have h' : AtL s p (txL (n, o, v) ++ []) := h
    have h1 := one_txt h' hr bhd_nil
    have h2 := h'.next
    have h3 := h2.len
    simp at h3
    have e0 : spn gapZ [] = 0 := rfl
    rw [e0, Nat.add_zero] at h1
    rw [lstS, h1]
    simp only [ne_eq, not_true, if_false]
    rw [if_neg (by rintro ⟨_, x⟩; cases x), if_pos (by omega)]
    rfl
  | r2 :: q, r, 0, p, out, h, hr, hq, hz => by have := h.2; omega
  | r2 :: q, r, f + 1, p, out, h, hr, hq, hz => by
    obtain ⟨n, o, v⟩ := r
    obtain ⟨hr2, hq2⟩ := frm_head hq
    have h' : AtL s p (txL (n, o, v) ++ (44 :: (32 :: (txL r2 ++ wsL [44, 32] 2 q)))) := by
      have e : wsL [44, 32] 1 (r2 :: q) = [44, 32] ++ (txL r2 ++ wsL [44, 32] 2 q) := rfl
      rw [e] at h
      simpa using h
    have h1 := one_txt h' hr (bhd_comma _)
    have e0 : spn gapZ (44 :: (32 :: (txL r2 ++ wsL [44, 32] 2 q))) = 0 := spn_no (by rfl)
    rw [e0, Nat.add_zero] at h1
    have h2 := h'.next
    have h3 : AtL s (p + (txL (n, o, v)).length + 1) (32 :: (txL r2 ++ wsL [44, 32] 2 q)) := (show AtL s _ ([44] ++ (32 :: (txL r2 ++ wsL [44, 32] 2 q))) from h2).next
    have h4 : AtL s (p + (txL (n, o, v)).length + 1 + 1) (txL r2 ++ wsL [44, 32] 2 q) := (show AtL s _ ([32] ++ (txL r2 ++ wsL [44, 32] 2 q)) from h3).next
    rw [ws_num _ q 1 0] at h4
    have hg : runF gapZ s.data.toList (p + (txL (n, o, v)).length + 1) = p + (txL (n, o, v)).length + 1 + 1 := by
      rw [h3.run0 gapZ, spn_yes (by rfl), tx_first hr2]
    have hl2 := h2.len
    simp at hl2
    have ih := plain_read q r2 f _ (out ++ [[(n, o, v)]]) h4 hr2 hq2 (by omega)
    rw [lstS, h1]
    simp only [ne_eq, not_true, if_false]
    rw [if_neg (by rintro ⟨_, x⟩; cases x), if_neg (by omega), if_neg (by rw [h2.head]; exact fun q => q rfl), hg, List.nil_append, ih]
    simp
/-- Read of Write -/
theorem lst_back {l : List (List Rl)} {T : ByteArray} (h : lisT 0 ⟨#[]⟩ l = some T) : lstF T true = .ok l := by
  obtain ⟨h1, h2⟩ := lisT_list l 0 _ T h
  have e0 : (⟨#[]⟩ : ByteArray).data.toList = [] := rfl
  rw [e0, List.nil_append] at h1
  cases l with
  | nil =>
    have hz : T.size = 0 := by rw [← size20, h1]; rfl
    unfold lstF
    rw [if_pos (by rw [hz]; have := runF_le22 gapZ T (Nat.zero_le _); omega)]
  | cons rs q =>
    obtain ⟨hne, hf⟩ := h2 rs (List.mem_cons_self ..)
    have e1 : lwL 0 (rs :: q) = [] ++ (wsL [32, 124, 32] 0 rs ++ lwL 1 q) := rfl
    have hA : AtL T 0 (wsL [32, 124, 32] 0 rs ++ lwL 1 q) := ⟨by rw [h1, e1]; rfl, Nat.zero_le _⟩
    have hr0 : runF gapZ T.data.toList 0 = 0 := by
      obtain ⟨r1, q1, rfl⟩ : ∃ r q, rs = r :: q := by cases rs with | nil => exact absurd rfl hne | cons r q => exact ⟨r, q, rfl⟩
      have e : wsL [32, 124, 32] 0 (r1 :: q1) = [] ++ (txL r1 ++ wsL [32, 124, 32] 1 q1) := rfl
      rw [hA.run0 gapZ, e, List.nil_append, List.append_assoc, tx_first (frm_head hf).1]
    have hpos : T.size ≠ 0 := by
      intro hz
      obtain ⟨r1, q1, rfl⟩ : ∃ r q, rs = r :: q := by cases rs with | nil => exact absurd rfl hne | cons r q => exact ⟨r, q, rfl⟩
      have e : wsL [32, 124, 32] 0 (r1 :: q1) = [] ++ (txL r1 ++ wsL [32, 124, 32] 1 q1) := rfl
      have hl := hA.len
      rw [e] at hl
      have := tx_len (frm_head hf).1
      simp at hl
      omega
    unfold lstF
    rw [hr0, if_neg (fun e => hpos e.symm)]
    have := lists_read q rs (T.size + 1) 0 [] hA hne hf (fun x hx => h2 x (List.mem_cons_of_mem _ hx)) (by omega)
    simpa using this
/-- ReadList of WriteList -/
theorem lis_back {rs : List Rl} {T : ByteArray} (hf : frmB rs = true) (h : T = wrT ⟨#[44, 32]⟩ 0 ⟨#[]⟩ rs) : lisF (lstF T false) = (rs, 0, 0) := by
  have h1 : T.data.toList = wsL [44, 32] 0 rs := by rw [h, wrT_list]; rfl
  cases rs with
  | nil =>
    have hz : T.size = 0 := by rw [← size20, h1]; rfl
    unfold lstF
    rw [if_pos (by rw [hz]; have := runF_le22 gapZ T (Nat.zero_le _); omega)]
    rfl
  | cons r q =>
    obtain ⟨hr, hq⟩ := frm_head hf
    have e : wsL [44, 32] 0 (r :: q) = [] ++ (txL r ++ wsL [44, 32] 1 q) := rfl
    have hA : AtL T 0 (txL r ++ wsL [44, 32] 1 q) := ⟨by rw [h1, e]; rfl, Nat.zero_le _⟩
    have hr0 : runF gapZ T.data.toList 0 = 0 := by rw [hA.run0 gapZ, tx_first hr]
    have hpos : T.size ≠ 0 := by
      intro hz
      have hl := hA.len
      have := tx_len hr
      simp at hl
      omega
    unfold lstF
    rw [hr0, if_neg (fun e => hpos e.symm), plain_read q r (T.size + 1) 0 [] hA hr hq (by omega)]
    simp [lisF, Function.comp_def]

end Go.Proofs.YtmfcaoacklbkoaaDoor
