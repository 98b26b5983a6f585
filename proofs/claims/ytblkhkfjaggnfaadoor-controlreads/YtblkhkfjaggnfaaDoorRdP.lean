/-
  What Read reads: lines, words, numbers in tens, clauses: in plain words; a text that was written is read back.
-/
import Derived.Test.YtblkhkfjaggnfaaDoorDimP
set_option linter.unusedSimpArgs false
set_option linter.unusedVariables false
namespace Go.Proofs.YtblkhkfjaggnfaaDoor
open Go.RowKit

def isBl (b : UInt8) : Bool := b == 32 || b == 9
def notBl (b : UInt8) : Bool := !isBl b
/-- the first line, and what is behind it -/
def cutN : List UInt8 → List UInt8 × List UInt8
  | [] => ([], [])
  | b :: r => if b == 10 then ([], r) else (b :: (cutN r).1, (cutN r).2)
theorem cutN_le : ∀ s : List UInt8, (cutN s).2.length ≤ s.length
  | [] => Nat.le_refl _
  | b :: r => by
    unfold cutN
    split
    · simp
    · have := cutN_le r; simp; omega
theorem cutN_lt {s : List UInt8} (h : s ≠ []) : (cutN s).2.length < s.length := by
  cases s with
  | nil => exact absurd rfl h
  | cons b r =>
    unfold cutN
    split
    · simp
    · have := cutN_le r; simp; omega
/-- the lines of a text -/
def linesOf (s : List UInt8) : List (List UInt8) := if h : s = [] then [] else (cutN s).1 :: linesOf (cutN s).2
termination_by s.length
decreasing_by exact cutN_lt h
theorem linesOf_nil : linesOf [] = [] := by rw [linesOf]; simp
theorem linesOf_cons {s : List UInt8} (h : s ≠ []) : linesOf s = (cutN s).1 :: linesOf (cutN s).2 := by
  conv => lhs; rw [linesOf]
  rw [dif_neg h]
/-- a line that says nothing -/
def idleL (l : List UInt8) : Bool := (l.head? == some 99) || l.all isBl
theorem drop_le (p : UInt8 → Bool) (l : List UInt8) : (l.dropWhile p).length ≤ l.length := (List.dropWhile_sublist p).length_le
theorem drop_lt {l : List UInt8} (h : l.dropWhile isBl ≠ []) : ((l.dropWhile isBl).dropWhile notBl).length < l.length := by
  have h1 := drop_le isBl l
  cases hl : l.dropWhile isBl with
  | nil => exact absurd hl h
  | cons b r =>
    have hb : isBl b = false := by
      have := List.head_dropWhile_not isBl h
      simpa [hl] using this
    rw [hl] at h1
    have h2 := drop_le notBl r
    rw [List.dropWhile_cons_of_pos (by simp [notBl, hb])]
    simp at h1; omega
theorem drop_none {p : UInt8 → Bool} : ∀ {l : List UInt8}, l.dropWhile p = [] → ∀ b ∈ l, p b = true
  | [], _, b, hb => by cases hb
  | x :: r, h, b, hb => by
    cases hx : p x with
    | false => rw [List.dropWhile_cons_of_neg (by simp [hx])] at h; cases h
    | true =>
      rw [List.dropWhile_cons_of_pos hx] at h
      rcases List.mem_cons.1 hb with rfl | hb
      · exact hx
      · exact drop_none h b hb
/-- a line's words -/
def wordsOf (l : List UInt8) : List (List UInt8) := if h : l.dropWhile isBl = [] then [] else (l.dropWhile isBl).takeWhile notBl :: wordsOf ((l.dropWhile isBl).dropWhile notBl)
termination_by l.length
decreasing_by exact drop_lt h
theorem wordsOf_nil {l : List UInt8} (h : l.dropWhile isBl = []) : wordsOf l = [] := by rw [wordsOf]; simp [h]
theorem wordsOf_cons {l : List UInt8} (h : l.dropWhile isBl ≠ []) : wordsOf l = (l.dropWhile isBl).takeWhile notBl :: wordsOf ((l.dropWhile isBl).dropWhile notBl) := by
  conv => lhs; rw [wordsOf]
  rw [dif_neg h]
/-- the next word, "" if there is none; what is left of the line -/
def word1 (l : List UInt8) : List UInt8 := (l.dropWhile isBl).takeWhile notBl
def rest1 (l : List UInt8) : List UInt8 := (l.dropWhile isBl).dropWhile notBl
theorem word1_nil {l : List UInt8} : word1 l = [] ↔ l.dropWhile isBl = [] := by
  unfold word1
  constructor
  · intro h
    cases hl : l.dropWhile isBl with
    | nil => rfl
    | cons b r =>
      have hb : isBl b = false := by
        have := List.head_dropWhile_not isBl (l := l) (by simp [hl])
        simpa [hl] using this
      rw [hl, List.takeWhile_cons_of_pos (by simp [notBl, hb])] at h
      simp at h
  · intro h; simp [h]
theorem words_word {l : List UInt8} (h : word1 l ≠ []) : wordsOf l = word1 l :: wordsOf (rest1 l) := wordsOf_cons (fun e => h (word1_nil.2 e))
theorem words_none {l : List UInt8} (h : word1 l = []) : wordsOf l = [] := wordsOf_nil (word1_nil.1 h)
theorem rest1_lt {l : List UInt8} (h : word1 l ≠ []) : (rest1 l).length < l.length := drop_lt (fun e => h (word1_nil.2 e))
theorem words_none_iff {l : List UInt8} : wordsOf l = [] ↔ word1 l = [] := by
  constructor
  · intro h
    rcases Classical.em (word1 l = []) with e | e
    · exact e
    · rw [words_word e] at h; simp at h
  · exact words_none
theorem idle_words {l : List UInt8} (h : idleL l = false) : wordsOf l ≠ [] := by
  intro e
  have h1 := word1_nil.1 (words_none_iff.1 e)
  unfold idleL at h
  simp only [Bool.or_eq_false_iff] at h
  have : l.all isBl = true := by
    rw [List.all_eq_true]
    intro b hb
    exact drop_none h1 b hb
  rw [this] at h; simp at h
/-- numbers in tens; what is too great for any place is told as 2147483648 -/
def isDg (b : UInt8) : Bool := decide (48 ≤ b.toNat) && decide (b.toNat ≤ 57)
def digV (a : Int) (b : UInt8) : Int := min (10 * a + ((b.toNat : Int) - 48)) 2147483648
def digs (l : List UInt8) : Option Int := if (!l.isEmpty && l.head? != some 48) && l.all isDg then some (l.foldl digV 0) else none
def numW (w : List UInt8) : Option Int := if w.head? == some 45 then (digs w.tail).map (fun z => -z) else if w == [48] then some 0 else digs w
theorem digV_range {a : Int} {b : UInt8} (h : 0 ≤ a) (hb : isDg b = true) : 0 ≤ digV a b ∧ digV a b ≤ 2147483648 := by
  simp only [isDg, Bool.and_eq_true, decide_eq_true_eq] at hb
  unfold digV; omega
theorem fold_min : ∀ (l : List UInt8) (a : Nat), l.all isDg = true → l.foldl digV (min (a : Int) 2147483648) = min ((l.foldl (fun a b => 10 * a + (b.toNat - 48)) a : Nat) : Int) 2147483648
  | [], a, _ => rfl
  | b :: r, a, h => by
    simp only [List.all_cons, Bool.and_eq_true] at h
    have hb := h.1
    simp only [isDg, Bool.and_eq_true, decide_eq_true_eq] at hb
    rw [List.foldl_cons, List.foldl_cons, ← fold_min r _ h.2]
    congr 1
    unfold digV
    omega
theorem digs_val {l : List UInt8} (h0 : l ≠ []) (h1 : l.head? ≠ some 48) (h : l.all isDg = true) : digs l = some (min (decV l : Int) 2147483648) := by
  unfold digs
  have e1 : l.isEmpty = false := by simpa using h0
  have e2 : (l.head? != some 48) = true := by simpa using h1
  rw [if_pos (by rw [e1, e2, h]; rfl)]
  have := fold_min l 0 h
  rw [show min ((0 : Nat) : Int) 2147483648 = 0 by decide] at this
  rw [this]; rfl
theorem dec_ne (u : Nat) : Lib.decDigits u ≠ [] := by
  rw [Lib.decDigits]; split <;> simp
theorem dec_all (u : Nat) : (Lib.decDigits u).all isDg = true := by
  rw [List.all_eq_true]
  intro b hb
  have := dec_bytes u b hb
  simp [isDg]; omega
theorem dec_head (u : Nat) (h : 0 < u) : (Lib.decDigits u).head? ≠ some 48 := by
  induction u using Nat.strongRecOn with
  | ind u ih =>
    rw [Lib.decDigits]
    split
    · rename_i h1
      intro e
      have e2 : UInt8.ofNat (48 + u) = 48 := by simpa using e
      have : (UInt8.ofNat (48 + u)).toNat = 48 + u := by simp [UInt8.toNat_ofNat']; omega
      rw [e2] at this; simp at this; omega
    · rename_i h1
      have := ih (u / 10) (by omega) (by omega)
      rw [List.head?_append]
      cases hq : (Lib.decDigits (u / 10)).head? with
      | none => exact absurd (List.head?_eq_none_iff.1 hq) (dec_ne _)
      | some x => rw [hq] at this; simpa using this
theorem dec_head45 (u : Nat) : (Lib.decDigits u).head? ≠ some 45 := by
  intro e
  have hm : (45 : UInt8) ∈ Lib.decDigits u := List.mem_of_mem_head? e
  have := (dec_bytes u 45 hm).1
  simp at this
theorem numW_itoa (z : Int) (h1 : -2147483647 ≤ z) (h2 : z ≤ 2147483647) : numW (Lib.itoa z) = some z := by
  unfold Lib.itoa
  split
  · rename_i h
    unfold numW
    rw [if_pos (by simp)]
    rw [List.tail_cons, digs_val (dec_ne _) (dec_head _ (by omega)) (dec_all _), dec_val]
    simp; omega
  · rename_i h
    unfold numW
    rw [if_neg (by simpa using dec_head45 _)]
    by_cases hz : z = 0
    · subst hz
      rw [if_pos (by rw [show (0 : Int).toNat = 0 from rfl, Lib.decDigits]; rfl)]
    · rw [if_neg]
      · rw [digs_val (dec_ne _) (dec_head _ (by omega)) (dec_all _), dec_val]
        simp; omega
      · intro e
        have e2 := congrArg decV (by simpa using e : Lib.decDigits z.toNat = [48])
        rw [dec_val] at e2
        simp [decV] at e2; omega
theorem numW_zero : numW [48] = some 0 := rfl
/-- the words of the lines that aren't idle, each with its line's number; the first line has the number k -/
def spoken : Nat → List (List UInt8) → List (List UInt8 × Nat)
  | _, [] => []
  | k, l :: r => (if idleL l then [] else (wordsOf l).map (fun w => (w, k))) ++ spoken (k + 1) r
/-- the first line that isn't idle, its number, and the lines behind it -/
def nxt : Nat → List (List UInt8) → Option (List UInt8 × Nat × List (List UInt8))
  | _, [] => none
  | k, l :: r => if idleL l then nxt (k + 1) r else some (l, k, r)
/-- the clauses: those that are whole, the literals behind the last 0, and what is wrong -/
def eat (n : Int) : List (List UInt8 × Nat) → List Int → List (List Int) → List (List Int) × List Int × Option (Int × Nat)
  | [], op, all => (all, op, none)
  | (w, k) :: r, op, all =>
    match numW w with
    | none => (all, op, some (31, k))
    | some z => if z = 0 then eat n r [] (all ++ [op]) else if !fmd z || decide (n < varOf z) then (all, op, some (32, k)) else eat n r (op ++ [z]) all
/-- a head's numbers -/
def headW (ws : List (List UInt8)) : Option (Int × Int) :=
  match ws with
  | [p, c, a, b] => if p == [112] && c == [99, 110, 102] then
      match numW a, numW b with
      | some v, some k => if decide (0 ≤ v) && decide (v ≤ 1048576) && (decide (0 ≤ k) && decide (k ≤ 2147483647)) then some (v, k) else none
      | _, _ => none
    else none
  | _ => none
/-- Read's answer: variables, clauses, error, line -/
structure RdA where
  vars : Int
  cls : List (List Int)
  err : Int
  line : Nat
def rdF (s : List UInt8) : RdA :=
  match nxt 1 (linesOf s) with
  | none => ⟨0, [], 30, (linesOf s).length + 1⟩
  | some (l, k, r) =>
    match headW (wordsOf l) with
    | none => ⟨0, [], 30, k⟩
    | some (v, c) =>
      match eat v (spoken (k + 1) r) [] [] with
      | (_, _, some (e, j)) => ⟨0, [], e, j⟩
      | (all, op, none) => if op ≠ [] then ⟨0, [], 33, (linesOf s).length + 1⟩ else if (all.length : Int) ≠ c then ⟨0, [], 34, (linesOf s).length + 1⟩ else ⟨v, all, 0, 0⟩

end Go.Proofs.YtblkhkfjaggnfaaDoor
