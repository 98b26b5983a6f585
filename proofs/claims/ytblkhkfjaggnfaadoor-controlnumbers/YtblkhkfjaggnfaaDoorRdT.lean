/-
  Lines and words as the document cuts them; a text's tokens by lines and words; numbers in tens: in plain words.
  KEEP: nil below form mono app grown rdz
-/
import Derived.Test.YtblkhkfjaggnfaaDoorDrB
set_option linter.unusedSimpArgs false
set_option linter.unusedVariables false
namespace Go.Proofs.YtblkhkfjaggnfaaDoor
open Go.RowKit

/-- lines, with what is had of the first -/
def lnsF : List UInt8 → List UInt8 → List (List UInt8)
  | [], cur => if cur = [] then [] else [cur]
  | b :: r, cur => if b = 10 then cur :: lnsF r [] else lnsF r (cur ++ [b])
/-- words, with what is had of the first -/
def wdsF : List UInt8 → List UInt8 → List (List UInt8)
  | [], cur => if cur = [] then [] else [cur]
  | b :: r, cur => if isBl b then (if cur = [] then [] else [cur]) ++ wdsF r [] else wdsF r (cur ++ [b])
/-- a line's tokens, and those of all -/
def tokL (k : Nat) (ln : List UInt8) : List Tok := if ln.head? = some 99 then (if ln.all plB then [] else [(none, k)]) else (wdsF ln []).map (fun w => (some w, k))
def toks : Nat → List (List UInt8) → List Tok
  | _, [] => []
  | k, ln :: r => tokL k ln ++ toks (k + 1) r
/-- is there a line's end -/
def hasN : List UInt8 → Bool
  | [] => false
  | b :: r => b == 10 || hasN r
theorem lnsF_cut : ∀ (s cur : List UInt8), (s ≠ [] ∨ cur ≠ []) → lnsF s cur = (cur ++ (cutN s).1) :: (if hasN s then lnsF (cutN s).2 [] else [])
  | [], cur, h => by
    have : cur ≠ [] := by simpa using h
    simp [lnsF, cutN, hasN, this]
  | b :: r, cur, _ => by
    by_cases hb : b = 10
    · subst hb; simp [lnsF, cutN, hasN]
    · have hb2 : (b == 10) = false := by simpa using hb
      rw [lnsF, if_neg hb, lnsF_cut r (cur ++ [b]) (.inr (by simp))]
      simp [cutN, hasN, hb2, hb]
theorem scan_words : ∀ (s : List UInt8) (k : Nat) (cur : List UInt8), scan s k cur false false = (wdsF (cutN s).1 cur).map (fun w => (some w, k)) ++ (if hasN s then scan (cutN s).2 (k + 1) [] true false else [])
  | [], k, cur => by
    cases cur <;> simp [scan, one9, cutN, wdsF, hasN]
  | b :: r, k, cur => by
    by_cases hb : b = 10
    · subst hb
      cases cur <;> simp [scan, one9, cutN, wdsF, hasN]
    · have hb2 : (b == 10) = false := by simpa using hb
      rw [scan]
      simp only [Bool.false_and, Bool.false_eq_true, if_false, hb2]
      cases hB : isBl b
      · simp only [Bool.false_eq_true, if_false]
        rw [scan_words r k (cur ++ [b])]
        simp [cutN, hb2, hb, wdsF, hB, hasN]
      · simp only [if_true]
        rw [scan_words r k []]
        cases cur <;> simp [cutN, hb2, hb, wdsF, hB, hasN, one9]
theorem scan_rem : ∀ (s : List UInt8) (k : Nat) (cur : List UInt8), scan s k cur false true = if (cutN s).1.all plB then (if hasN s then scan (cutN s).2 (k + 1) [] true false else []) else [(none, k)]
  | [], k, cur => by simp [scan, one9, cutN, hasN]
  | b :: r, k, cur => by
    by_cases hb : b = 10
    · subst hb; simp [scan, one9, cutN, hasN]
    · have hb2 : (b == 10) = false := by simpa using hb
      have hb3 : (b != 10) = true := by simpa using hb
      rw [scan]
      simp only [hb3, Bool.and_self, if_true, Bool.true_and]
      cases hp : plB b
      · simp [cutN, hb2, hb, hp]
      · simp only [if_true]
        rw [scan_rem r k cur]
        simp [cutN, hb2, hb, hp, hasN]
theorem eat_app (A B : List Tok) : ∀ st, eatD (A ++ B) st = match (eatD A st).2.1 with
    | some k => eatD A st
    | none => ((eatD A st).1 ++ (eatD B (eatD A st).2.2).1, (eatD B (eatD A st).2.2).2) := by
  induction A with
  | nil => intro st; simp [eatD]
  | cons t r ih =>
    intro st
    obtain ⟨o, k⟩ := t
    cases o with
    | none => simp [eatD]
    | some w =>
      rw [List.cons_append, eatD, eatD]
      cases ht : takeW st w with
      | none => simp
      | some x =>
        simp only
        rw [ih x.1]
        cases hf : (eatD r x.1).2.1 with
        | some j => simp [hf]
        | none => simp [hf, List.append_assoc]
theorem eat_same {A B C : List Tok} (h : ∀ st, eatD B st = eatD C st) (st : RSt) : eatD (A ++ B) st = eatD (A ++ C) st := by
  rw [eat_app, eat_app]
  cases (eatD A st).2.1 with
  | some k => rfl
  | none => simp only; rw [h]
/-- the tokens of a text are those of its lines -/
theorem scan_toks : ∀ (n : Nat) (s : List UInt8) (k : Nat) (st : RSt), s.length ≤ n → eatD (scan s k [] true false) st = eatD (toks k (lnsF s [])) st
  | n, [], k, st, _ => by simp [scan, one9, lnsF, toks]
  | 0, b :: r, k, st, h => by simp at h
  | n + 1, b :: r, k, st, h => by
    have hlen := cutN_lt (s := b :: r) (by simp)
    rw [lnsF_cut (b :: r) [] (.inl (by simp)), List.nil_append, toks]
    have ih : ∀ st, eatD (if hasN (b :: r) then scan (cutN (b :: r)).2 (k + 1) [] true false else []) st = eatD (toks (k + 1) (if hasN (b :: r) then lnsF (cutN (b :: r)).2 [] else [])) st := fun st => by
      split
      · exact scan_toks n _ (k + 1) st (by simp at h hlen ⊢; omega)
      · rfl
    have key : (tokL k (cutN (b :: r)).1 = [(none, k)] ∧ scan (b :: r) k [] true false = [(none, k)]) ∨ scan (b :: r) k [] true false = tokL k (cutN (b :: r)).1 ++ (if hasN (b :: r) then scan (cutN (b :: r)).2 (k + 1) [] true false else []) := by
      by_cases hc : b = 99
      · subst hc
        rw [scan]
        simp only [Bool.false_and, Bool.false_eq_true, if_false, Bool.true_and, beq_self_eq_true, if_true]
        rw [scan_rem]
        have e1 : (cutN (99 :: r)).1 = 99 :: (cutN r).1 := by simp [cutN]
        have e2 : (cutN (99 :: r)).2 = (cutN r).2 := by simp [cutN]
        have e3 : hasN (99 :: r) = hasN r := by simp [hasN]
        have e4 : (99 :: (cutN r).1).all plB = (cutN r).1.all plB := by
          rw [List.all_cons]; have : plB 99 = true := by decide
          rw [this]; rfl
        unfold tokL
        rw [e1, e2, e3, List.head?_cons, if_pos rfl, e4]
        cases (cutN r).1.all plB
        · left; simp
        · right; simp
      · right
        have hc2 : (b == 99) = false := by simpa using hc
        by_cases hb : b = 10
        · subst hb
          rw [scan]; simp [one9, cutN, hasN, tokL, wdsF]
        · have hb2 : (b == 10) = false := by simpa using hb
          have e1 : (cutN (b :: r)).1 = b :: (cutN r).1 := by simp [cutN, hb2, hb]
          have e2 : (cutN (b :: r)).2 = (cutN r).2 := by simp [cutN, hb2, hb]
          have e3 : hasN (b :: r) = hasN r := by simp [hasN, hb2, hb]
          have e4 : (b :: (cutN r).1).head? ≠ some 99 := by simpa using hc
          unfold tokL
          rw [e1, e2, e3, if_neg e4]
          rw [scan]
          simp only [Bool.false_and, Bool.false_eq_true, if_false, Bool.true_and, hc2, hb2]
          cases hB : isBl b
          · simp only [Bool.false_eq_true, if_false]
            rw [scan_words]; simp [wdsF, hB]
          · simp only [if_true]
            rw [scan_words]; simp [wdsF, hB, one9]
    rcases key with ⟨hT, hA⟩ | hA
    · rw [hA, hT]; simp [eatD]
    · rw [hA]; exact eat_same ih st
theorem end_lines : ∀ (s cur : List UInt8) (k : Nat), endL s k (decide (cur = [])) = (lnsF s cur).length + k
  | [], cur, k => by
    by_cases h : cur = []
    · simp [endL, lnsF, h]
    · simp [endL, lnsF, h]; omega
  | b :: r, cur, k => by
    by_cases hb : b = 10
    · subst hb
      have := end_lines r [] (k + 1)
      simp only [decide_true] at this
      simp [endL, lnsF, this]; omega
    · have hb2 : (b == 10) = false := by simpa using hb
      have := end_lines r (cur ++ [b]) k
      have e : decide (cur ++ [b] = []) = false := by simp
      rw [e] at this
      simp [endL, lnsF, hb, hb2, this]
/-- what is read of a text, by its lines -/
theorem par_lines (s : List UInt8) : parD s = (let r := eatD (toks 1 (lnsF s [])) st0; (r.1, match r.2.1 with | some k => k | none => if r.2.2.op then (lnsF s []).length + 1 else 0)) := by
  have h1 := scan_toks s.length s 1 st0 (Nat.le_refl _)
  have h2 : endL s 1 true = (lnsF s []).length + 1 := by have := end_lines s [] 1; simpa using this
  unfold parD
  rw [h1, h2]
  cases eatD (toks 1 (lnsF s [])) st0 with
  | mk l x =>
    obtain ⟨o, st⟩ := x
    cases o <;> rfl

end Go.Proofs.YtblkhkfjaggnfaaDoor
