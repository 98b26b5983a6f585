/-
  dimacs.head, walked.
  KEEP: set on app at below new trans refl start ap kept rd rds mono grown nil text own form lt rdb tens rdz len cut push whole row
-/
import Derived.Test.YtpebpnbikdahkaaDoorNextW
import Derived.Handy
set_option linter.unusedSimpArgs false
set_option linter.unusedVariables false
namespace Go.Proofs.YtpebpnbikdahkaaDoor
open Go Go.RowKit

theorem rest1_sub {R : List UInt8} {x : UInt8} (h : x ∈ rest1 R) : x ∈ R := (List.dropWhile_sublist isBl).subset ((List.dropWhile_sublist notBl).subset h)
theorem rest1_le (R : List UInt8) : (rest1 R).length ≤ R.length := Nat.le_trans (drop_le notBl _) (drop_le isBl R)
theorem word1_le (R : List UInt8) : (word1 R).length ≤ R.length := Nat.le_trans (List.takeWhile_sublist notBl).length_le (drop_le isBl R)
theorem ba_lenW (l : ByteArray) : l.data.toList.length = l.size := by cases l; simp [ByteArray.size]
/-- what word answers and leaves -/
def WdR (b : Nat) (l : ByteArray) (k : Int) (R : List UInt8) (w : World) (e : Ending) (w' : World) : Prop :=
  ∃ W R' : ByteArray, e = .returned (.string W) ∧ W.data.toList = word1 R ∧ R'.data.toList = rest1 R ∧ Tb w' b l R' k ∧ w.grownBy w' (some b)
theorem word_tb (b : Nat) (l r : ByteArray) (k : Int) (w : World) (h : Tb w b l r k) (hs : r.data.toList.length < 4294967281) (has : ∀ x ∈ r.data.toList, x.toNat < 256) :
    Calls Tryd.prog 14 #[.pointer (some ⟨b, 0, none⟩)] w fun e w' => WdR b l k r.data.toList w e w' := by
  refine (word_any b l r k w h (by rw [← ba_lenW]; exact hs) has).mono ?_
  rintro e w' ⟨rfl, w1, bel, rfl⟩
  exact ⟨_, _, rfl, mk_list _, mk_list _, (h.below bel).set1 _, (grown_some2 (grown_below bel)).trans (grown_set _ ⟨b, 1, none⟩ _)⟩
/-- a head, word by word -/
def hdC (l : List UInt8) : Option (Int × Int) :=
  if word1 l = [112] ∧ word1 (rest1 l) = [99, 110, 102] then
    match numW (word1 (rest1 (rest1 l))), numW (word1 (rest1 (rest1 (rest1 l)))) with
    | some v, some k => if (decide (0 ≤ v) && decide (v ≤ 1048576) && (decide (0 ≤ k) && decide (k ≤ 2147483647))) && (word1 (rest1 (rest1 (rest1 (rest1 l))))).isEmpty then some (v, k) else none
    | _, _ => none
  else none
theorem numW_nil : numW [] = none := rfl
theorem hdC_eq (l : List UInt8) : headW (wordsOf l) = hdC l := by
  unfold hdC
  by_cases h1 : word1 l = [112]
  · rw [words_word (by rw [h1]; simp), h1]
    by_cases h2 : word1 (rest1 l) = [99, 110, 102]
    · rw [words_word (by rw [h2]; simp), h2, if_pos ⟨rfl, rfl⟩]
      generalize rest1 (rest1 l) = l2
      by_cases h3 : word1 l2 = []
      · rw [words_none h3, h3, numW_nil]; rfl
      · rw [words_word h3]
        generalize word1 l2 = a
        generalize rest1 l2 = l3
        by_cases h4 : word1 l3 = []
        · rw [words_none h4, h4, numW_nil]
          cases numW a <;> rfl
        · rw [words_word h4]
          generalize word1 l3 = c
          generalize rest1 l3 = l4
          by_cases h5 : word1 l4 = []
          · rw [words_none h5, h5]
            simp only [headW, List.isEmpty_nil, Bool.and_true]
            rfl
          · rw [words_word h5]
            have : (word1 l4).isEmpty = false := by simpa using h5
            rw [this]
            simp only [headW, Bool.and_false]
            cases numW a <;> cases numW c <;> rfl
    · rw [if_neg (by simp [h2])]
      by_cases h3 : word1 (rest1 l) = []
      · rw [words_none h3]; rfl
      · rw [words_word h3]
        generalize wordsOf (rest1 (rest1 l)) = ws
        match ws with
        | [] => rfl
        | [_] => rfl
        | [a, c] =>
          have : ((word1 (rest1 l)) == [99, 110, 102]) = false := by simpa using h2
          simp [headW, this]
        | _ :: _ :: _ :: _ => rfl
  · rw [if_neg (by simp [h1])]
    by_cases h3 : word1 l = []
    · rw [words_none h3]; rfl
    · rw [words_word h3]
      generalize wordsOf (rest1 l) = ws
      match ws with
      | [] => rfl
      | [_] => rfl
      | [_, _] => rfl
      | [p, a, c] =>
        simp [headW]
        intro h; exact absurd h h1
      | _ :: _ :: _ :: _ :: _ => rfl
/-- what head answers and leaves -/
def HdR (s0 : List UInt8) (b k : Nat) (ls : List (List UInt8)) (e : Ending) (w' : World) : Prop :=
  (nxt k ls = none ∧ (∃ x y, e = .returned (.tuple #[.int .i64 x, .int .i64 y, .bool false])) ∧ ∃ left rest, Tb w' b left rest ((k + ls.length : Nat) : Int)) ∨
  ∃ l k' r left rest, nxt k ls = some (l, k', r) ∧ linesOf left.data.toList = r ∧ Tb w' b left rest (k' : Int) ∧ left.data.toList.length ≤ s0.length ∧ (∀ x ∈ left.data.toList, x ∈ s0) ∧ k' + r.length < k + ls.length ∧
    ((hdC l = none ∧ ∃ x y, e = .returned (.tuple #[.int .i64 x, .int .i64 y, .bool false])) ∨ ∃ v c, hdC l = some (v, c) ∧ e = .returned (.tuple #[.int .i64 v, .int .i64 c, .bool true]))

end Go.Proofs.YtpebpnbikdahkaaDoor
