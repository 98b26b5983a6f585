/-
  What is written of relations is read as the same (pure).
  KEEP: off c0 c1 c2 c3 c4 s0 s1 s2 s3 s4 newS rds lt f t q x len below nil form rd mono on app start at new trans refl kept own row out set one more lt size cell some none
-/
import Derived.Test.YtmfcaoacklbkoaaDoorRlW
import Derived.Test.YtmfcaoacklbkoaaDoorKRmD
import Derived.Lib.IndexLaws
set_option linter.unusedSimpArgs false
set_option linter.unusedVariables false
namespace Go.Proofs.YtmfcaoacklbkoaaDoor
open Go Go.RowKit

theorem wrd_of_pn {z : Int} (h : pnZ z = true ∨ z = 43 ∨ z = 45 ∨ z = 46) : wrdZ z = true := by
  unfold pnZ at h
  unfold wrdZ gapZ
  simp at h ⊢
  omega
theorem gap_of_wrd {z : Int} (h : wrdZ z = true) : gapZ z = false := by
  unfold wrdZ at h
  cases hg : gapZ z
  · rfl
  · rw [hg] at h; simp at h
theorem rnA_wrd : ∀ (l : List UInt8) (k : Nat), rnA k l = true → ∀ b ∈ l, wrdZ b.toNat = true
  | [], k, h, b, hb => by cases hb
  | x :: r, k, h, b, hb => by
    rw [rnA, Bool.and_eq_true] at h
    rcases List.mem_cons.1 hb with rfl | hb
    · refine wrd_of_pn ?_
      have h0 := h.1
      rw [Bool.or_eq_true] at h0
      rcases h0 with h1 | h1
      · exact .inl h1
      · simp at h1
        right
        rcases h1.2 with (h2 | h2) | h2
        · left; omega
        · right; left; omega
        · right; right; omega
    · exact rnA_wrd r (k + 1) h.2 b hb
theorem rnm_wrd {l : List UInt8} (h : rnmF l = true) : l ≠ [] ∧ ∀ b ∈ l, wrdZ b.toNat = true := by
  unfold rnmF at h
  rw [Bool.and_eq_true] at h
  have h1 := of_decide_eq_true h.1
  exact ⟨fun e => by rw [e] at h1; simp at h1, rnA_wrd l 0 h.2⟩
theorem wrd_of_up {z : Int} (h : upsR z = true) : wrdZ z = true := by
  unfold upsR plnR letR digR at h
  unfold wrdZ gapZ
  simp at h ⊢
  omega
theorem wrd_of_pln {z : Int} (h : plnR z = true) : wrdZ z = true := wrd_of_up (by unfold upsR; rw [h]; rfl)
theorem wrd_of_dig {z : Int} (h : digR z = true) : wrdZ z = true := wrd_of_pln (by unfold plnR; rw [h]; simp)
theorem allS_mem {p : Int → Bool} {s : ByteArray} (h : allS p s = true) : ∀ b ∈ s.data.toList, p b.toNat = true := by
  rw [allS_iff, Bool.and_eq_true] at h
  exact fun b hb => List.all_eq_true.1 h.2 b hb
theorem ext_l22 (s : ByteArray) (a b : Nat) : (s.extract a b).data.toList = (s.data.toList.drop a).take (b - a) := by
  rw [ByteArray.data_extract, Array.toList_extract, List.extract_eq_take_drop]
/-- a text cut at a place -/
theorem cut_mem {s : ByteArray} {i : Nat} (h : i < s.size) {b : UInt8} (hb : b ∈ s.data.toList) : b ∈ (s.extract 0 i).data.toList ∨ s.data.toList[i]? = some b ∨ b ∈ (s.extract (i + 1) s.size).data.toList := by
  rw [ext_l22, ext_l22]
  have hl : i < s.data.toList.length := by rw [size20]; exact h
  have e : s.data.toList = s.data.toList.take i ++ s.data.toList[i] :: s.data.toList.drop (i + 1) := by
    rw [← List.drop_eq_getElem_cons hl, List.take_append_drop]
  rw [e] at hb
  rcases List.mem_append.1 hb with h1 | h1
  · left; simpa using h1
  · rcases List.mem_cons.1 h1 with rfl | h1
    · right; left; exact List.getElem?_eq_getElem hl
    · right; right
      rw [List.take_of_length_le (by rw [List.length_drop, size20]; omega)]
      exact h1
theorem ta_wrd {u : ByteArray} (h1 : (decide (iM u < 0) || allS plnR (reS u)) = true) (h2 : allS upsR (upS u) = true) : ∀ b ∈ u.data.toList, wrdZ b.toNat = true := by
  intro b hb
  by_cases hm : iM u < 0
  · rw [upS, if_pos hm] at h2
    exact wrd_of_up (allS_mem h2 b hb)
  · rw [decide_eq_false hm, Bool.false_or] at h1
    rw [upS, if_neg hm] at h2
    rw [reS, if_neg hm] at h1
    have hle := (iM_le u).2
    have hge := (iM_le u).1
    obtain ⟨i, hi⟩ : ∃ i : Nat, iM u = i := ⟨(iM u).toNat, by omega⟩
    rw [hi] at h1 h2 hle
    simp only [Int.toNat_natCast] at h1 h2
    rcases cut_mem (i := i) (by omega) hb with h3 | h3 | h3
    · exact wrd_of_up (allS_mem h2 b h3)
    · have : b.toNat = 45 := by
        rcases Lib.lastIdx_spec u 45 u.size with ⟨h4, _⟩ | ⟨j, hj, h4, h5, _⟩
        · have : iM u = -1 := h4
          omega
        · have e : iM u = j := h4
          have : j = i := by omega
          subst this
          have hlt : j < u.data.size := hj
          have h6 : u.data.toList[j]? = some u.data[j]! := by
            rw [getElem!_pos u.data j hlt]; simp [hlt]
          rw [h6] at h3
          injection h3 with h3
          rw [h3] at h5
          omega
      rw [this]; rfl
    · exact wrd_of_pln (allS_mem h1 b h3)
theorem ok_wrd {v : ByteArray} (h : okS v = true) : v.data.toList ≠ [] ∧ ∀ b ∈ v.data.toList, wrdZ b.toNat = true := by
  unfold okS at h
  simp only [Bool.and_eq_true] at h
  obtain ⟨h1, h2, h3, h4⟩ := h
  have hta := ta_wrd h2 h4
  refine ⟨fun e => ?_, fun b hb => ?_⟩
  · have hz : v.size = 0 := by rw [← size20, e]; rfl
    have ht : (taS v).data.toList = [] := by
      unfold taS
      split
      · exact e
      · rw [ext_l22, e]; simp
    have hu : (upS (taS v)).data.toList = [] := by
      unfold upS
      split
      · exact ht
      · rw [ext_l22, ht]; simp
    rw [hu] at h3
    exact absurd h3 (by decide)
  · by_cases hc : iC v < 0
    · rw [taS, if_pos hc] at hta
      exact hta b hb
    · rw [decide_eq_false hc, Bool.false_or, epS, if_neg hc] at h1
      rw [taS, if_neg hc] at hta
      have hle := (iC_le v).2
      have hge := (iC_le v).1
      obtain ⟨i, hi⟩ : ∃ i : Nat, iC v = i := ⟨(iC v).toNat, by omega⟩
      rw [hi] at h1 hta hle
      simp only [Int.toNat_natCast] at h1 hta
      rcases cut_mem (i := i) (by omega) hb with h5 | h5 | h5
      · exact wrd_of_dig (allS_mem h1 b h5)
      · have h6 := (Lib.indexByte_some (l := v.data.toList) (c := 58) (o := i) hi).1
        rw [h6] at h5
        injection h5 with h5
        rw [← h5]; rfl
      · exact hta b h5

/-- from a place on the text is L -/
def AtL (s : ByteArray) (k : Nat) (L : List UInt8) : Prop := s.data.toList.drop k = L ∧ k ≤ s.size
def hdZ (L : List UInt8) : Int := match L with | [] => -1 | b :: _ => b.toNat
theorem AtL.len {s : ByteArray} {k : Nat} {L : List UInt8} (h : AtL s k L) : k + L.length = s.size := by
  have := congrArg List.length h.1
  rw [List.length_drop, size20] at this
  have := h.2
  omega
theorem AtL.next {s : ByteArray} {k : Nat} {X R : List UInt8} (h : AtL s k (X ++ R)) : AtL s (k + X.length) R := by
  have hl := h.len
  rw [List.length_append] at hl
  refine ⟨?_, by omega⟩
  rw [← List.drop_drop, h.1]
  simp
theorem AtL.head {s : ByteArray} {k : Nat} {L : List UInt8} (h : AtL s k L) : atB s k = hdZ L := by
  cases L with
  | nil =>
    have := h.len
    rw [atB_out (by simp at this; omega)]; rfl
  | cons b r =>
    have hl := h.len
    simp at hl
    have hlt : k < s.size := by omega
    have h1 := h.1
    rw [drop20 hlt] at h1
    injection h1 with h1
    rw [atB_in hlt, h1]; rfl
theorem AtL.ext {s : ByteArray} {k : Nat} {X : ByteArray} {R : List UInt8} (h : AtL s k (X.data.toList ++ R)) : s.extract k (k + X.size) = X := by
  have : (s.extract k (k + X.size)).data.toList = X.data.toList := by
    rw [ext_l22, h.1, Nat.add_sub_cancel_left, ← size20 X]
    simp
  cases hq : s.extract k (k + X.size) with
  | mk d =>
    rw [hq] at this
    cases X with
    | mk e => exact congrArg ByteArray.mk (Array.toList_inj.1 this)
theorem spn_app (p : Int → Bool) : ∀ (X R : List UInt8), (∀ b ∈ X, p b.toNat = true) → spn p (X ++ R) = X.length + spn p R
  | [], R, h => by simp
  | b :: r, R, h => by
    rw [List.cons_append, spn_yes (h b (List.mem_cons_self ..)), spn_app p r R fun x hx => h x (List.mem_cons_of_mem _ hx)]
    simp; omega
theorem AtL.run {s : ByteArray} {k : Nat} {X R : List UInt8} (p : Int → Bool) (h : AtL s k (X ++ R)) (hX : ∀ b ∈ X, p b.toNat = true) : runF p s.data.toList k = k + X.length + spn p R := by
  unfold runF
  rw [h.1, spn_app p X R hX]; omega
theorem AtL.run0 {s : ByteArray} {k : Nat} {R : List UInt8} (p : Int → Bool) (h : AtL s k R) : runF p s.data.toList k = k + spn p R := by
  unfold runF; rw [h.1]
theorem spn_stop {p : Int → Bool} {R : List UInt8} (h : R = [] ∨ ∃ b r, R = b :: r ∧ p b.toNat = false) : spn p R = 0 := (spn_zero p R).2 h

end Go.Proofs.YtmfcaoacklbkoaaDoor
