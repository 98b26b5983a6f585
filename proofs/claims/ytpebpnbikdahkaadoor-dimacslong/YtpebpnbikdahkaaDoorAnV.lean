/-
  dimacs.verdict, walked.
  KEEP: set on app at below new trans refl start ap kept rd rds mono
-/
import Derived.Test.YtpebpnbikdahkaaDoorAnQ
import Derived.Test.YtpebpnbikdahkaaDoorHeadW
import Derived.Handy
set_option linter.unusedSimpArgs false
set_option linter.unusedVariables false
namespace Go.Proofs.YtpebpnbikdahkaaDoor
open Go Go.RowKit

/-- what an answer's first line says, word by word -/
def vdC (l : List UInt8) : Option Bool :=
  if word1 l = [115] ∧ (word1 (rest1 l) = yesW ∨ word1 (rest1 l) = noW) ∧ word1 (rest1 (rest1 l)) = [] then some (decide (word1 (rest1 l) = yesW)) else none
theorem toldW_len {ws : List (List UInt8)} (h : ws.length ≠ 2) : toldW ws = none := by
  unfold toldW
  rw [if_neg (fun e => h (by rw [e]; rfl)), if_neg (fun e => h (by rw [e]; rfl))]
theorem vdC_eq (l : List UInt8) : toldW (wordsOf l) = vdC l := by
  unfold vdC
  by_cases h1 : word1 l = []
  · rw [words_none h1, h1, if_neg (by simp)]; exact toldW_len (by simp)
  rw [words_word h1]
  by_cases h2 : word1 (rest1 l) = []
  · rw [words_none h2, h2, if_neg (by simp [yesW, noW])]; exact toldW_len (by simp)
  rw [words_word h2]
  by_cases h3 : word1 (rest1 (rest1 l)) = []
  · rw [words_none h3, h3]
    generalize word1 (rest1 l) = c
    generalize word1 l = a
    unfold toldW
    by_cases ha : a = [115]
    · subst ha
      by_cases hc : c = yesW
      · subst hc; simp
      · by_cases hn : c = noW
        · subst hn; simp [yesW, noW]
        · rw [if_neg (by simp [hc]), if_neg (by simp [hn]), if_neg (by simp [hc, hn])]
    · rw [if_neg (by simp [ha]), if_neg (by simp [ha]), if_neg (by simp [ha])]
  · rw [words_word h3, if_neg (by simp [h3])]; exact toldW_len (by simp)
/-- what verdict answers and leaves -/
def VdR (s0 : List UInt8) (b k : Nat) (ls : List (List UInt8)) (e : Ending) (w' : World) : Prop :=
  (nxt k ls = none ∧ e = .returned (.tuple #[.bool false, .int .i64 35]) ∧ ∃ left rest, Tb w' b left rest ((k + ls.length : Nat) : Int)) ∨
  ∃ l k' r left rest, nxt k ls = some (l, k', r) ∧ linesOf left.data.toList = r ∧ Tb w' b left rest (k' : Int) ∧ left.data.toList.length ≤ s0.length ∧ (∀ x ∈ left.data.toList, x ∈ s0) ∧ k' + r.length < k + ls.length ∧
    ((vdC l = none ∧ e = .returned (.tuple #[.bool false, .int .i64 35])) ∨ ∃ v, vdC l = some v ∧ e = .returned (.tuple #[.bool v, .int .i64 0]))

set_option maxRecDepth 100000 in
set_option maxHeartbeats 3200000 in
theorem verdict_any (b : Nat) (l r : ByteArray) (k : Nat) (w : World) (h : Tb w b l r k) (hs : l.data.toList.length < 4294967281) (has : ∀ x ∈ l.data.toList, x.toNat < 256) (hk : k + (linesOf l.data.toList).length < 4611686018427387904) :
    Calls Tryd.prog 10 #[.pointer (some ⟨b, 0, none⟩)] w fun e w' => VdR l.data.toList b (k + 1) (linesOf l.data.toList) e w' ∧ w.grownBy w' (some b) := by
  have HN : Hid (Calls Tryd.prog 12 #[.pointer (some ⟨b, 0, none⟩)] w fun e w' => NxtR l.data.toList b (k + 1) (linesOf l.data.toList) e w' ∧ w.grownBy w' (some b)) := next_any b l r k w h (by rw [← ba_lenW]; omega) hk
  clear h
  go_enter Tryd.func10, Tryd.ntmps10
  go_wp2_with fail
  refine HN.out.mono ?_
  rintro e w1 ⟨hN, hG⟩
  rcases hN with ⟨ln, k', rs, left, q1, rfl, q3, q4, q5, q6, q7⟩ | ⟨q1, rfl, rest, q2⟩
  case inr =>
    have HF : Hid (VdR l.data.toList b (k + 1) (linesOf l.data.toList) (.returned (.tuple #[.bool false, .int .i64 35])) w1 ∧ w.grownBy w1 (some b)) := ⟨.inl ⟨q1, rfl, _, _, q2⟩, hG⟩
    clear q1 q2 hG
    go_wp2
    go_returns
    exact HF.out
  have HLn : Hid (ln.length < 4294967281 ∧ ∀ x ∈ ln, x.toNat < 256) := ⟨by omega, fun x hx => has x (q6 x (.inl hx))⟩
  have HFin : Hid (∀ (e : Ending) (w' : World) (rest : ByteArray), Tb w' b left rest (k' : Int) → w.grownBy w' (some b) → ((vdC ln = none ∧ e = .returned (.tuple #[.bool false, .int .i64 35])) ∨ ∃ v, vdC ln = some v ∧ e = .returned (.tuple #[.bool v, .int .i64 0])) → VdR l.data.toList b (k + 1) (linesOf l.data.toList) e w' ∧ w.grownBy w' (some b)) := fun e w' rest p1 p2 p3 =>
    ⟨.inr ⟨ln, k', rs, left, rest, q1, q3, p1, by omega, fun x hx => q6 x (.inr hx), q7, p3⟩, p2⟩
  have HT1 : Hid (Tb w1 b left ⟨ln.toArray⟩ (k' : Int)) := q4
  have HG1 : Hid (w.grownBy w1 (some b)) := hG
  clear q1 q3 q4 q5 q6 q7 hG HN
  go_wp2_with fail
  refine (word_tb b left ⟨ln.toArray⟩ k' w1 HT1.out (by rw [mk_list]; exact HLn.out.1) (by rw [mk_list]; exact HLn.out.2)).mono ?_
  rw [mk_list]
  rintro e w2 ⟨W1, R1, rfl, hW1, hR1, T2, G2⟩
  have HT2 : Hid (Tb w2 b left R1 (k' : Int)) := T2
  have HG2 : Hid (w.grownBy w2 (some b)) := HG1.out.trans G2
  have HR1 : Hid (R1.data.toList = rest1 ln) := hR1
  clear T2 G2 HT1 HG1 hR1
  have hb1 := ba_list W1
  rw [hW1] at hb1
  by_cases e1 : word1 ln = [115]
  case neg =>
    have HC : Hid (vdC ln = none) := by show _ = _; unfold vdC; rw [if_neg (by simp [e1])]
    have hq : (W1.toList == [115]) = false := by rw [hb1]; simpa using e1
    have hqn : (W1.toList != [115]) = true := by rw [bne, hq]; rfl
    clear hb1 hW1 e1
    go_wp2
    go_returns
    exact HFin.out _ _ _ HT2.out HG2.out (.inl ⟨HC.out, rfl⟩)
  have hq1 : (W1.toList == [115]) = true := by rw [hb1]; simpa using e1
  have hq1n : (W1.toList != [115]) = false := by rw [bne, hq1]; rfl
  have HE1 : Hid (word1 ln = [115]) := e1
  clear hb1 hW1 e1
  have HL1 : Hid (R1.data.toList.length < 4294967281 ∧ ∀ x ∈ R1.data.toList, x.toNat < 256) := by
    rw [HR1.out]; exact ⟨by have := rest1_le ln; have := HLn.out.1; omega, fun x hx => HLn.out.2 x (rest1_sub hx)⟩
  go_wp2_with fail
  refine (word_tb b left R1 k' w2 HT2.out HL1.out.1 HL1.out.2).mono ?_
  rintro e w3 ⟨W2, R2, rfl, hW2, hR2, T3, G3⟩
  rw [HR1.out] at hW2 hR2
  have HT3 : Hid (Tb w3 b left R2 (k' : Int)) := T3
  have HG3 : Hid (w.grownBy w3 (some b)) := HG2.out.trans G3
  have HR2 : Hid (R2.data.toList = rest1 (rest1 ln)) := hR2
  clear T3 G3 HT2 HG2 hR2
  have hb2 := ba_list W2
  rw [hW2] at hb2
  have HL2 : Hid (R2.data.toList.length < 4294967281 ∧ ∀ x ∈ R2.data.toList, x.toNat < 256) := by
    rw [HR2.out]; exact ⟨by have := rest1_le (rest1 ln); have := rest1_le ln; have := HLn.out.1; omega, fun x hx => HLn.out.2 x (rest1_sub (rest1_sub hx))⟩
  clear hq1 hq1n
  by_cases e2 : word1 (rest1 ln) = yesW ∨ word1 (rest1 ln) = noW
  case neg =>
    have HC : Hid (vdC ln = none) := by show _ = _; unfold vdC; rw [if_neg (fun h => e2 h.2.1)]
    have hy : (W2.toList == [83, 65, 84, 73, 83, 70, 73, 65, 66, 76, 69]) = false := by rw [hb2]; exact beq_eq_false_iff_ne.2 (fun e => e2 (.inl e))
    have hn : (W2.toList == [85, 78, 83, 65, 84, 73, 83, 70, 73, 65, 66, 76, 69]) = false := by rw [hb2]; exact beq_eq_false_iff_ne.2 (fun e => e2 (.inr e))
    have hyn : (W2.toList != [83, 65, 84, 73, 83, 70, 73, 65, 66, 76, 69]) = true := by rw [bne, hy]; rfl
    have hnn : (W2.toList != [85, 78, 83, 65, 84, 73, 83, 70, 73, 65, 66, 76, 69]) = true := by rw [bne, hn]; rfl
    clear hb2 hW2 e2
    go_wp2
    go_returns
    exact HFin.out _ _ _ HT3.out HG3.out (.inl ⟨HC.out, rfl⟩)
  have HK : Hid (∀ W3 : ByteArray, W3.data.toList = word1 (rest1 (rest1 ln)) → (W3.toList == []) = false → vdC ln = none) := fun W3 h3 hf => by
    unfold vdC; rw [if_neg]; rintro ⟨_, _, h⟩
    rw [ByteArray.toList_eq, h3, h] at hf
    simp at hf
  have HK2 : Hid (∀ W3 : ByteArray, W3.data.toList = word1 (rest1 (rest1 ln)) → (W3.toList == []) = true → vdC ln = some (decide (word1 (rest1 ln) = yesW))) := fun W3 h3 hf => by
    unfold vdC; rw [if_pos]; refine ⟨HE1.out, e2, ?_⟩
    rw [ByteArray.toList_eq, h3] at hf
    simpa using hf
  by_cases hy0 : word1 (rest1 ln) = yesW
  case pos =>
    have hy : (W2.toList == [83, 65, 84, 73, 83, 70, 73, 65, 66, 76, 69]) = true := by rw [hb2]; exact beq_iff_eq.2 hy0
    have hyn : (W2.toList != [83, 65, 84, 73, 83, 70, 73, 65, 66, 76, 69]) = false := by rw [bne, hy]; rfl
    rw [decide_eq_true hy0] at HK2
    clear hb2 hW2 e2 hy0 HE1
    go_wp2_with fail
    refine (word_tb b left R2 k' w3 HT3.out HL2.out.1 HL2.out.2).mono ?_
    rintro e w4 ⟨W3, R3, rfl, hW3, hR3, T4, G4⟩
    rw [HR2.out] at hW3
    have HT4 : Hid (Tb w4 b left R3 (k' : Int)) := T4
    have HG4 : Hid (w.grownBy w4 (some b)) := HG3.out.trans G4
    clear T4 G4 hR3 HT3 HG3
    cases he : (W3.toList == [])
    case false =>
      have HC := HK.out W3 hW3 he
      have HC : Hid (vdC ln = none) := HC
      have hen : (W3.toList != []) = true := by rw [bne, he]; rfl
      clear HK HK2 hW3
      go_wp2
      go_returns
      exact HFin.out _ _ _ HT4.out HG4.out (.inl ⟨HC.out, rfl⟩)
    case true =>
      have HC : Hid (vdC ln = some true) := HK2.out W3 hW3 he
      have hen : (W3.toList != []) = false := by rw [bne, he]; rfl
      clear HK HK2 hW3
      go_wp2
      go_returns
      exact HFin.out _ _ _ HT4.out HG4.out (.inr ⟨_, HC.out, rfl⟩)
  case neg =>
    have hy : (W2.toList == [83, 65, 84, 73, 83, 70, 73, 65, 66, 76, 69]) = false := by rw [hb2]; exact beq_eq_false_iff_ne.2 hy0
    have hyn : (W2.toList != [83, 65, 84, 73, 83, 70, 73, 65, 66, 76, 69]) = true := by rw [bne, hy]; rfl
    have hn : (W2.toList == [85, 78, 83, 65, 84, 73, 83, 70, 73, 65, 66, 76, 69]) = true := by rw [hb2]; exact beq_iff_eq.2 (e2.resolve_left hy0)
    have hnn : (W2.toList != [85, 78, 83, 65, 84, 73, 83, 70, 73, 65, 66, 76, 69]) = false := by rw [bne, hn]; rfl
    rw [decide_eq_false hy0] at HK2
    clear hb2 hW2 e2 hy0 HE1
    go_wp2_with fail
    refine (word_tb b left R2 k' w3 HT3.out HL2.out.1 HL2.out.2).mono ?_
    rintro e w4 ⟨W3, R3, rfl, hW3, hR3, T4, G4⟩
    rw [HR2.out] at hW3
    have HT4 : Hid (Tb w4 b left R3 (k' : Int)) := T4
    have HG4 : Hid (w.grownBy w4 (some b)) := HG3.out.trans G4
    clear T4 G4 hR3 HT3 HG3
    cases he : (W3.toList == [])
    case false =>
      have HC : Hid (vdC ln = none) := HK.out W3 hW3 he
      have hen : (W3.toList != []) = true := by rw [bne, he]; rfl
      clear HK HK2 hW3
      go_wp2
      go_returns
      exact HFin.out _ _ _ HT4.out HG4.out (.inl ⟨HC.out, rfl⟩)
    case true =>
      have HC : Hid (vdC ln = some false) := HK2.out W3 hW3 he
      have hen : (W3.toList != []) = false := by rw [bne, he]; rfl
      clear HK HK2 hW3
      go_wp2
      go_returns
      exact HFin.out _ _ _ HT4.out HG4.out (.inr ⟨_, HC.out, rfl⟩)

end Go.Proofs.YtpebpnbikdahkaaDoor
