/-
  joined: Text DimP RdP DrP DrB RdT
-/
import Derived.Test.YtbeaoekbppdlmaaDoorForms
import Derived.Lib.ItoaNum
import Derived.Lib.ItoaLen
import Derived.Test.YtbeaoekbppdlmaaDoorStpA
set_option linter.unusedSimpArgs false
set_option linter.unusedVariables false
namespace Go.Proofs.YtbeaoekbppdlmaaDoor
open Go.RowKit

theorem dec_bytes (u : Nat) : ∀ b ∈ Lib.decDigits u, 48 ≤ b.toNat ∧ b.toNat ≤ 57 := by
  induction u using Nat.strongRecOn with
  | ind u ih =>
    intro b hb
    rw [Lib.decDigits] at hb
    split at hb
    · rename_i h
      obtain rfl : b = UInt8.ofNat (48 + u) := by simpa using hb
      have : (UInt8.ofNat (48 + u)).toNat = 48 + u := by simp [UInt8.toNat_ofNat']; omega
      omega
    · rename_i h
      rcases List.mem_append.1 hb with hb | hb
      · exact ih (u / 10) (by omega) b hb
      · obtain rfl : b = UInt8.ofNat (48 + u % 10) := by simpa using hb
        have : (UInt8.ofNat (48 + u % 10)).toNat = 48 + u % 10 := by simp [UInt8.toNat_ofNat']; omega
        omega
def decV (l : List UInt8) : Nat := l.foldl (fun a b => 10 * a + (b.toNat - 48)) 0
theorem dec_val (u : Nat) : decV (Lib.decDigits u) = u := by
  induction u using Nat.strongRecOn with
  | ind u ih =>
    rw [Lib.decDigits]
    split
    · rename_i h
      have : (UInt8.ofNat (48 + u)).toNat = 48 + u := by simp [UInt8.toNat_ofNat']; omega
      simp [decV, this]; omega
    · rename_i h
      have h1 := ih (u / 10) (by omega)
      have : (UInt8.ofNat (48 + u % 10)).toNat = 48 + u % 10 := by simp [UInt8.toNat_ofNat']; omega
      unfold decV at h1 ⊢
      rw [List.foldl_append, h1]
      simp [this]; omega
theorem itoa_bytes (n : Int) : ∀ b ∈ Lib.itoa n, b ≠ 32 := by
  intro b hb e
  subst e
  unfold Lib.itoa at hb
  split at hb
  · rcases List.mem_cons.1 hb with h | h
    · exact absurd h (by decide)
    · have := (dec_bytes _ _ h).1; simp at this
  · have := (dec_bytes _ _ hb).1; simp at this
theorem itoa_inj {a b : Int} (h : Lib.itoa a = Lib.itoa b) : a = b := by
  have no45 : ∀ (u : Nat) (r : List UInt8), Lib.decDigits u ≠ 45 :: r := fun u r e => by
    have := (dec_bytes u 45 (by rw [e]; simp)).1; simp at this
  unfold Lib.itoa at h
  split at h <;> split at h
  · have := congrArg decV (List.cons.inj h).2
    rw [dec_val, dec_val] at this; omega
  · exact absurd h.symm (no45 _ _)
  · exact absurd h (no45 _ _)
  · have := congrArg decV h
    rw [dec_val, dec_val] at this; omega
theorem split_at {p q r s : List UInt8} (hp : ∀ b ∈ p, b ≠ 32) (hq : ∀ b ∈ q, b ≠ 32) (h : p ++ 32 :: r = q ++ 32 :: s) : p = q ∧ r = s := by
  induction p generalizing q with
  | nil => cases q with
    | nil => exact ⟨rfl, (List.cons.inj h).2⟩
    | cons y q => exact absurd (List.cons.inj h).1.symm (hq y (List.mem_cons_self ..))
  | cons x p ih => cases q with
    | nil => exact absurd (List.cons.inj h).1 (hp x (List.mem_cons_self ..))
    | cons y q =>
      obtain ⟨h1, h2⟩ := List.cons.inj h
      obtain ⟨h3, h4⟩ := ih (fun b hb => hp b (List.mem_cons_of_mem _ hb)) (fun b hb => hq b (List.mem_cons_of_mem _ hb)) h2
      exact ⟨by rw [h1, h3], h4⟩
/-- the text of a list -/
def textOf (t : List Int) : List UInt8 := t.flatMap (fun l => Lib.itoa l ++ [32])
theorem textOf_inj : ∀ {t t' : List Int}, textOf t = textOf t' → t = t'
  | [], [], _ => rfl
  | [], y :: r', h => by simp [textOf] at h
  | x :: r, [], h => by simp [textOf] at h
  | x :: r, y :: r', h => by
    have e1 : textOf (x :: r) = Lib.itoa x ++ 32 :: textOf r := by simp [textOf]
    have e2 : textOf (y :: r') = Lib.itoa y ++ 32 :: textOf r' := by simp [textOf]
    rw [e1, e2] at h
    obtain ⟨h1, h2⟩ := split_at (itoa_bytes x) (itoa_bytes y) h
    rw [itoa_inj h1, textOf_inj h2]
theorem textOf_more (t : List Int) (k : Nat) (h : k < t.length) : textOf (t.take (k + 1)) = (textOf (t.take k) ++ Lib.itoa (t.getD k 0)) ++ [32] := by
  rw [take_succ_getD t 0 k h]; simp [textOf]
theorem textOf_len (t : List Int) (h : ∀ x ∈ t, fmd x = true) : (textOf t).length ≤ 22 * t.length := by
  induction t with
  | nil => simp [textOf]
  | cons x r ih =>
    have e1 : textOf (x :: r) = Lib.itoa x ++ 32 :: textOf r := by simp [textOf]
    have := ih (fun y hy => h y (List.mem_cons_of_mem _ hy))
    have hx := fmd_range (h x (List.mem_cons_self ..))
    have := Lib.itoa_length_le x (by omega) (by omega)
    rw [e1]; simp; omega


end Go.Proofs.YtbeaoekbppdlmaaDoor
set_option linter.unusedSimpArgs false
set_option linter.unusedVariables false
namespace Go.Proofs.YtbeaoekbppdlmaaDoor
open Go.RowKit

/-- the lines of the clauses -/
def bodyOf (css : List (List Int)) : List UInt8 := css.flatMap (fun c => textOf c ++ [48, 10])
/-- the head -/
def headOf (n : Int) (k : Nat) : List UInt8 := ((([112, 32, 99, 110, 102, 32] ++ Lib.itoa n) ++ [32]) ++ Lib.itoa k) ++ [10]
/-- a formula's text -/
def wrF (n : Int) (css : List (List Int)) : List UInt8 := headOf n css.length ++ bodyOf css
theorem bodyOf_more (css : List (List Int)) (k : Nat) (h : k < css.length) : bodyOf (css.take (k + 1)) = bodyOf (css.take k) ++ textOf (css.getD k []) ++ [48, 10] := by
  rw [take_succ_getD css [] k h]; simp [bodyOf]
theorem bodyOf_take_le (css : List (List Int)) (k : Nat) : (bodyOf (css.take k)).length ≤ (bodyOf css).length := by
  have e : bodyOf css = bodyOf (css.take k) ++ bodyOf (css.drop k) := by
    unfold bodyOf; rw [← List.flatMap_append, List.take_append_drop]
  rw [e]; simp
theorem textOf_take_le (c : List Int) (k : Nat) : (textOf (c.take k)).length ≤ (textOf c).length := by
  have e : textOf c = textOf (c.take k) ++ textOf (c.drop k) := by
    unfold textOf; rw [← List.flatMap_append, List.take_append_drop]
  rw [e]; simp
theorem wr_pre (n : Int) (css : List (List Int)) (k j : Nat) (h : k < css.length) : ((headOf n css.length ++ bodyOf (css.take k)) ++ textOf ((css.getD k []).take j)).length + 2 ≤ (wrF n css).length := by
  have h1 := bodyOf_take_le css (k + 1)
  rw [bodyOf_more css k h] at h1
  have h2 := textOf_take_le (css.getD k []) j
  simp only [wrF, List.length_append, List.length_cons, List.length_nil] at *
  omega
theorem bodyOf_len (n : Int) : ∀ css : List (List Int), css.all (fitsP n) = true → (bodyOf css).length ≤ 22 * (css.map List.length).sum + 2 * css.length
  | [], _ => by simp [bodyOf]
  | c :: css, h => by
    simp only [List.all_cons, Bool.and_eq_true] at h
    have e : bodyOf (c :: css) = (textOf c ++ [48, 10]) ++ bodyOf css := by simp [bodyOf]
    have h1 := textOf_len c (fun x hx => by
      have := List.all_eq_true.1 h.1 x hx
      simp only [Bool.and_eq_true] at this
      exact this.1)
    have h2 := bodyOf_len n css h.2
    rw [e]
    simp only [List.length_append, List.length_cons, List.length_nil, List.map_cons, List.sum_cons]
    omega
theorem wrF_len (n : Int) (css : List (List Int)) (h : frm n css = true) (hc : css.length ≤ 4611686018427387904) : (wrF n css).length ≤ 22 * (css.map List.length).sum + 2 * css.length + 60 := by
  simp only [frm, Bool.and_eq_true, decide_eq_true_eq] at h
  have h1 := bodyOf_len n css h.2
  have h2 := Lib.itoa_length_le n (by omega) (by omega)
  have h3 := Lib.itoa_length_le (css.length : Int) (by omega) (by omega)
  simp only [wrF, headOf, List.length_append, List.length_cons, List.length_nil]
  omega
/-- the number that is put for the variable k + 1 -/
def numAt (m : List Bool) (k : Nat) : Int := if m.getD k false then (k : Int) + 1 else -((k : Int) + 1)
/-- the numbers of a model, with the 0 at the end -/
def numsOf (m : List Bool) : List Int := (List.range m.length).map (numAt m) ++ [0]
/-- a word is put behind: what is done, and the line -/
def putW (st : List UInt8 × List UInt8) (d : List UInt8) : List UInt8 × List UInt8 :=
  if 78 < st.2.length + 1 + d.length then (st.1 ++ st.2 ++ [10], [118] ++ [32] ++ d) else (st.1, st.2 ++ [32] ++ d)
def putN (st : List UInt8 × List UInt8) (z : Int) : List UInt8 × List UInt8 := putW st (Lib.itoa z)
/-- "s SATISFIABLE", "s UNSATISFIABLE", with their line feeds -/
def satL : List UInt8 := [115, 32, 83, 65, 84, 73, 83, 70, 73, 65, 66, 76, 69, 10]
def unsL : List UInt8 := [115, 32, 85, 78, 83, 65, 84, 73, 83, 70, 73, 65, 66, 76, 69, 10]
def putTo (m : List Bool) (k : Nat) : List UInt8 × List UInt8 := ((List.range k).map (numAt m)).foldl putN (satL, [118])
theorem putTo_succ (m : List Bool) (k : Nat) : putTo m (k + 1) = putN (putTo m k) (numAt m k) := by
  simp [putTo, List.range_succ]
def ansT (m : List Bool) : List UInt8 := (putN (putTo m m.length) 0).1 ++ (putN (putTo m m.length) 0).2 ++ [10]
/-- an answer's text -/
def ansF (sat : Bool) (m : List Bool) : List UInt8 := if sat then ansT m else unsL
theorem putN_len (st : List UInt8 × List UInt8) (z : Int) (h : -9223372036854775808 ≤ z) (h' : z < 9223372036854775808) : (putN st z).1.length + (putN st z).2.length ≤ st.1.length + st.2.length + 25 := by
  have := Lib.itoa_length_le z (by omega) (by omega)
  unfold putN putW
  split <;> simp <;> omega
theorem numAt_range (m : List Bool) (k : Nat) (h : k < 4611686018427387904) : -4611686018427387905 ≤ numAt m k ∧ numAt m k ≤ 4611686018427387904 := by
  unfold numAt; split <;> omega
theorem putTo_len (m : List Bool) (k : Nat) (h : k < 4611686018427387904) : (putTo m k).1.length + (putTo m k).2.length ≤ 15 + 25 * k := by
  induction k with
  | zero => simp [putTo, satL]
  | succ k ih =>
    have hk := ih (by omega)
    have hr := numAt_range m k (by omega)
    have := putN_len (putTo m k) (numAt m k) (by omega) (by omega)
    rw [putTo_succ]; omega
theorem putN_line (st : List UInt8 × List UInt8) (z : Int) (h : -9223372036854775808 ≤ z) (h' : z < 9223372036854775808) (hl : st.2.length ≤ 78) : (putN st z).2.length ≤ 78 := by
  have := Lib.itoa_length_le z (by omega) (by omega)
  unfold putN putW
  split <;> simp <;> omega

end Go.Proofs.YtbeaoekbppdlmaaDoor
set_option linter.unusedSimpArgs false
set_option linter.unusedVariables false
namespace Go.Proofs.YtbeaoekbppdlmaaDoor
open Go.RowKit

def isBl (b : UInt8) : Bool := b == 32 || b == 9
def notBl (b : UInt8) : Bool := !isBl b
/-- the first line, and what is behind it -/
def cutN : List UInt8 → List UInt8 × List UInt8
  | [] => ([], [])
  | b :: r => if b == 10 then ([], r) else (b :: (cutN r).1, (cutN r).2)
theorem cutN_le : ∀ s : List UInt8, (cutN s).2.length ≤ s.length
  | [] => Nat.le_refl _
  | b :: r => by
    unfold cutN
    split
    · simp
    · have := cutN_le r; simp; omega
theorem cutN_lt {s : List UInt8} (h : s ≠ []) : (cutN s).2.length < s.length := by
  cases s with
  | nil => exact absurd rfl h
  | cons b r =>
    unfold cutN
    split
    · simp
    · have := cutN_le r; simp; omega
/-- the lines of a text -/
def linesOf (s : List UInt8) : List (List UInt8) := if h : s = [] then [] else (cutN s).1 :: linesOf (cutN s).2
termination_by s.length
decreasing_by exact cutN_lt h
theorem linesOf_nil : linesOf [] = [] := by rw [linesOf]; simp
theorem linesOf_cons {s : List UInt8} (h : s ≠ []) : linesOf s = (cutN s).1 :: linesOf (cutN s).2 := by
  conv => lhs; rw [linesOf]
  rw [dif_neg h]
/-- a line that says nothing -/
def idleL (l : List UInt8) : Bool := (l.head? == some 99) || l.all isBl
theorem drop_le (p : UInt8 → Bool) (l : List UInt8) : (l.dropWhile p).length ≤ l.length := (List.dropWhile_sublist p).length_le
theorem drop_lt {l : List UInt8} (h : l.dropWhile isBl ≠ []) : ((l.dropWhile isBl).dropWhile notBl).length < l.length := by
  have h1 := drop_le isBl l
  cases hl : l.dropWhile isBl with
  | nil => exact absurd hl h
  | cons b r =>
    have hb : isBl b = false := by
      have := List.head_dropWhile_not isBl h
      simpa [hl] using this
    rw [hl] at h1
    have h2 := drop_le notBl r
    rw [List.dropWhile_cons_of_pos (by simp [notBl, hb])]
    simp at h1; omega
theorem drop_none {p : UInt8 → Bool} : ∀ {l : List UInt8}, l.dropWhile p = [] → ∀ b ∈ l, p b = true
  | [], _, b, hb => by cases hb
  | x :: r, h, b, hb => by
    cases hx : p x with
    | false => rw [List.dropWhile_cons_of_neg (by simp [hx])] at h; cases h
    | true =>
      rw [List.dropWhile_cons_of_pos hx] at h
      rcases List.mem_cons.1 hb with rfl | hb
      · exact hx
      · exact drop_none h b hb
/-- a line's words -/
def wordsOf (l : List UInt8) : List (List UInt8) := if h : l.dropWhile isBl = [] then [] else (l.dropWhile isBl).takeWhile notBl :: wordsOf ((l.dropWhile isBl).dropWhile notBl)
termination_by l.length
decreasing_by exact drop_lt h
theorem wordsOf_nil {l : List UInt8} (h : l.dropWhile isBl = []) : wordsOf l = [] := by rw [wordsOf]; simp [h]
theorem wordsOf_cons {l : List UInt8} (h : l.dropWhile isBl ≠ []) : wordsOf l = (l.dropWhile isBl).takeWhile notBl :: wordsOf ((l.dropWhile isBl).dropWhile notBl) := by
  conv => lhs; rw [wordsOf]
  rw [dif_neg h]
/-- the next word, "" if there is none; what is left of the line -/
def word1 (l : List UInt8) : List UInt8 := (l.dropWhile isBl).takeWhile notBl
def rest1 (l : List UInt8) : List UInt8 := (l.dropWhile isBl).dropWhile notBl
theorem word1_nil {l : List UInt8} : word1 l = [] ↔ l.dropWhile isBl = [] := by
  unfold word1
  constructor
  · intro h
    cases hl : l.dropWhile isBl with
    | nil => rfl
    | cons b r =>
      have hb : isBl b = false := by
        have := List.head_dropWhile_not isBl (l := l) (by simp [hl])
        simpa [hl] using this
      rw [hl, List.takeWhile_cons_of_pos (by simp [notBl, hb])] at h
      simp at h
  · intro h; simp [h]
theorem words_word {l : List UInt8} (h : word1 l ≠ []) : wordsOf l = word1 l :: wordsOf (rest1 l) := wordsOf_cons (fun e => h (word1_nil.2 e))
theorem words_none {l : List UInt8} (h : word1 l = []) : wordsOf l = [] := wordsOf_nil (word1_nil.1 h)
theorem rest1_lt {l : List UInt8} (h : word1 l ≠ []) : (rest1 l).length < l.length := drop_lt (fun e => h (word1_nil.2 e))
theorem words_none_iff {l : List UInt8} : wordsOf l = [] ↔ word1 l = [] := by
  constructor
  · intro h
    rcases Classical.em (word1 l = []) with e | e
    · exact e
    · rw [words_word e] at h; simp at h
  · exact words_none
theorem idle_words {l : List UInt8} (h : idleL l = false) : wordsOf l ≠ [] := by
  intro e
  have h1 := word1_nil.1 (words_none_iff.1 e)
  unfold idleL at h
  simp only [Bool.or_eq_false_iff] at h
  have : l.all isBl = true := by
    rw [List.all_eq_true]
    intro b hb
    exact drop_none h1 b hb
  rw [this] at h; simp at h
/-- numbers in tens; what is too great for any place is told as 2147483648 -/
def isDg (b : UInt8) : Bool := decide (48 ≤ b.toNat) && decide (b.toNat ≤ 57)
def digV (a : Int) (b : UInt8) : Int := min (10 * a + ((b.toNat : Int) - 48)) 2147483648
def digs (l : List UInt8) : Option Int := if (!l.isEmpty && l.head? != some 48) && l.all isDg then some (l.foldl digV 0) else none
def numW (w : List UInt8) : Option Int := if w.head? == some 45 then (digs w.tail).map (fun z => -z) else if w == [48] then some 0 else digs w
theorem digV_range {a : Int} {b : UInt8} (h : 0 ≤ a) (hb : isDg b = true) : 0 ≤ digV a b ∧ digV a b ≤ 2147483648 := by
  simp only [isDg, Bool.and_eq_true, decide_eq_true_eq] at hb
  unfold digV; omega
theorem fold_min : ∀ (l : List UInt8) (a : Nat), l.all isDg = true → l.foldl digV (min (a : Int) 2147483648) = min ((l.foldl (fun a b => 10 * a + (b.toNat - 48)) a : Nat) : Int) 2147483648
  | [], a, _ => rfl
  | b :: r, a, h => by
    simp only [List.all_cons, Bool.and_eq_true] at h
    have hb := h.1
    simp only [isDg, Bool.and_eq_true, decide_eq_true_eq] at hb
    rw [List.foldl_cons, List.foldl_cons, ← fold_min r _ h.2]
    congr 1
    unfold digV
    omega
theorem digs_val {l : List UInt8} (h0 : l ≠ []) (h1 : l.head? ≠ some 48) (h : l.all isDg = true) : digs l = some (min (decV l : Int) 2147483648) := by
  unfold digs
  have e1 : l.isEmpty = false := by simpa using h0
  have e2 : (l.head? != some 48) = true := by simpa using h1
  rw [if_pos (by rw [e1, e2, h]; rfl)]
  have := fold_min l 0 h
  rw [show min ((0 : Nat) : Int) 2147483648 = 0 by decide] at this
  rw [this]; rfl
theorem dec_ne (u : Nat) : Lib.decDigits u ≠ [] := by
  rw [Lib.decDigits]; split <;> simp
theorem dec_all (u : Nat) : (Lib.decDigits u).all isDg = true := by
  rw [List.all_eq_true]
  intro b hb
  have := dec_bytes u b hb
  simp [isDg]; omega
theorem dec_head (u : Nat) (h : 0 < u) : (Lib.decDigits u).head? ≠ some 48 := by
  induction u using Nat.strongRecOn with
  | ind u ih =>
    rw [Lib.decDigits]
    split
    · rename_i h1
      intro e
      have e2 : UInt8.ofNat (48 + u) = 48 := by simpa using e
      have : (UInt8.ofNat (48 + u)).toNat = 48 + u := by simp [UInt8.toNat_ofNat']; omega
      rw [e2] at this; simp at this; omega
    · rename_i h1
      have := ih (u / 10) (by omega) (by omega)
      rw [List.head?_append]
      cases hq : (Lib.decDigits (u / 10)).head? with
      | none => exact absurd (List.head?_eq_none_iff.1 hq) (dec_ne _)
      | some x => rw [hq] at this; simpa using this
theorem dec_head45 (u : Nat) : (Lib.decDigits u).head? ≠ some 45 := by
  intro e
  have hm : (45 : UInt8) ∈ Lib.decDigits u := List.mem_of_mem_head? e
  have := (dec_bytes u 45 hm).1
  simp at this
theorem numW_itoa (z : Int) (h1 : -2147483647 ≤ z) (h2 : z ≤ 2147483647) : numW (Lib.itoa z) = some z := by
  unfold Lib.itoa
  split
  · rename_i h
    unfold numW
    rw [if_pos (by simp)]
    rw [List.tail_cons, digs_val (dec_ne _) (dec_head _ (by omega)) (dec_all _), dec_val]
    simp; omega
  · rename_i h
    unfold numW
    rw [if_neg (by simpa using dec_head45 _)]
    by_cases hz : z = 0
    · subst hz
      rw [if_pos (by rw [show (0 : Int).toNat = 0 from rfl, Lib.decDigits]; rfl)]
    · rw [if_neg]
      · rw [digs_val (dec_ne _) (dec_head _ (by omega)) (dec_all _), dec_val]
        simp; omega
      · intro e
        have e2 := congrArg decV (by simpa using e : Lib.decDigits z.toNat = [48])
        rw [dec_val] at e2
        simp [decV] at e2; omega
theorem numW_zero : numW [48] = some 0 := rfl
/-- the words of the lines that aren't idle, each with its line's number; the first line has the number k -/
def spoken : Nat → List (List UInt8) → List (List UInt8 × Nat)
  | _, [] => []
  | k, l :: r => (if idleL l then [] else (wordsOf l).map (fun w => (w, k))) ++ spoken (k + 1) r
/-- the first line that isn't idle, its number, and the lines behind it -/
def nxt : Nat → List (List UInt8) → Option (List UInt8 × Nat × List (List UInt8))
  | _, [] => none
  | k, l :: r => if idleL l then nxt (k + 1) r else some (l, k, r)
/-- the clauses: those that are whole, the literals behind the last 0, and what is wrong -/
def eat (n : Int) : List (List UInt8 × Nat) → List Int → List (List Int) → List (List Int) × List Int × Option (Int × Nat)
  | [], op, all => (all, op, none)
  | (w, k) :: r, op, all =>
    match numW w with
    | none => (all, op, some (31, k))
    | some z => if z = 0 then eat n r [] (all ++ [op]) else if !fmd z || decide (n < varOf z) then (all, op, some (32, k)) else eat n r (op ++ [z]) all
/-- a head's numbers -/
def headW (ws : List (List UInt8)) : Option (Int × Int) :=
  match ws with
  | [p, c, a, b] => if p == [112] && c == [99, 110, 102] then
      match numW a, numW b with
      | some v, some k => if decide (0 ≤ v) && decide (v ≤ 1048576) && (decide (0 ≤ k) && decide (k ≤ 2147483647)) then some (v, k) else none
      | _, _ => none
    else none
  | _ => none
/-- Read's answer: variables, clauses, error, line -/
structure RdA where
  vars : Int
  cls : List (List Int)
  err : Int
  line : Nat
def rdF (s : List UInt8) : RdA :=
  match nxt 1 (linesOf s) with
  | none => ⟨0, [], 30, (linesOf s).length + 1⟩
  | some (l, k, r) =>
    match headW (wordsOf l) with
    | none => ⟨0, [], 30, k⟩
    | some (v, c) =>
      match eat v (spoken (k + 1) r) [] [] with
      | (_, _, some (e, j)) => ⟨0, [], e, j⟩
      | (all, op, none) => if op ≠ [] then ⟨0, [], 33, (linesOf s).length + 1⟩ else if (all.length : Int) ≠ c then ⟨0, [], 34, (linesOf s).length + 1⟩ else ⟨v, all, 0, 0⟩

end Go.Proofs.YtbeaoekbppdlmaaDoor
set_option linter.unusedSimpArgs false
set_option linter.unusedVariables false
namespace Go.Proofs.YtbeaoekbppdlmaaDoor
open Go.RowKit

/-- a step's line, and the text of all -/
def stpT (x : Stp) : List UInt8 := ((if x.1 then [100, 32] else []) ++ textOf x.2) ++ [48, 10]
def drW (l : List Stp) : List UInt8 := l.flatMap stpT
def sndS (l : List Stp) : Bool := l.all (fun x => x.2.all fmd)

theorem drW_more (l : List Stp) (k : Nat) (h : k < l.length) : drW (l.take (k + 1)) = drW (l.take k) ++ stpT (l.getD k (false, [])) := by
  rw [take_succ_getD l (false, []) k h]; simp [drW]
theorem drW_append (a b : List Stp) : drW (a ++ b) = drW a ++ drW b := by simp [drW]
theorem drW_take_le (l : List Stp) (k : Nat) : (drW (l.take k)).length ≤ (drW l).length := by
  have e : drW l = drW (l.take k) ++ drW (l.drop k) := by rw [← drW_append, List.take_append_drop]
  rw [e]; simp
theorem txt_take_le (c : List Int) (k : Nat) : (textOf (c.take k)).length ≤ (textOf c).length := by
  have e : textOf c = textOf (c.take k) ++ textOf (c.drop k) := by
    unfold textOf; rw [← List.flatMap_append, List.take_append_drop]
  rw [e]; simp
theorem dr_pre (l : List Stp) (k j : Nat) (h : k < l.length) : ((drW (l.take k) ++ (if (l.getD k (false, [])).1 then [100, 32] else [])) ++ textOf ((l.getD k (false, [])).2.take j)).length + 2 ≤ (drW l).length := by
  have h1 := drW_take_le l (k + 1)
  rw [drW_more l k h] at h1
  have h2 := txt_take_le (l.getD k (false, [])).2 j
  simp only [stpT, List.length_append, List.length_cons, List.length_nil] at *
  omega
theorem drW_len : ∀ l : List Stp, sndS l = true → (drW l).length ≤ 22 * (l.map (fun x => x.2.length)).sum + 4 * l.length
  | [], _ => by simp [drW]
  | x :: l, h => by
    simp only [sndS, List.all_cons, Bool.and_eq_true] at h
    have e : drW (x :: l) = stpT x ++ drW l := by simp [drW]
    have h1 := textOf_len x.2 (fun y hy => List.all_eq_true.1 h.1 y hy)
    have h2 := drW_len l h.2
    have h3 : ((if x.1 then [100, 32] else [] : List UInt8)).length ≤ 2 := by split <;> simp
    rw [e]
    simp only [stpT, List.length_append, List.length_cons, List.length_nil, List.map_cons, List.sum_cons]
    omega

/-- digits are the number's own -/
theorem dec_uniq : ∀ (n : Nat) (l : List UInt8), l.length = n → l ≠ [] → l.head? ≠ some 48 → l.all isDg = true → Lib.decDigits (decV l) = l ∧ 0 < decV l
  | 0, l, h, h0, _, _ => absurd (List.length_eq_zero_iff.1 h) h0
  | n + 1, l, h, h0, h1, h2 => by
    obtain ⟨r, b, rfl⟩ : ∃ r b, l = r ++ [b] := ⟨l.dropLast, l.getLast h0, (List.dropLast_concat_getLast h0).symm⟩
    simp only [List.all_append, List.all_cons, List.all_nil, Bool.and_true, Bool.and_eq_true] at h2
    have hb := h2.2
    simp only [isDg, Bool.and_eq_true, decide_eq_true_eq] at hb
    have ev : decV (r ++ [b]) = 10 * decV r + (b.toNat - 48) := by simp [decV]
    have eb : UInt8.ofNat (48 + (b.toNat - 48)) = b := by apply UInt8.toNat_inj.1; simp [UInt8.toNat_ofNat']; omega
    rw [ev]
    cases r with
    | nil =>
      have e0 : decV [] = 0 := rfl
      have hn : b ≠ 48 := by intro e; subst e; exact h1 rfl
      have hb1 : b.toNat ≠ 48 := fun e => hn (UInt8.toNat_inj.1 (by rw [e]; rfl))
      rw [e0, show 10 * 0 + (b.toNat - 48) = b.toNat - 48 by omega]
      refine ⟨?_, by omega⟩
      rw [Lib.decDigits]
      split
      · rw [eb]; rfl
      · omega
    | cons c r =>
      obtain ⟨i1, i2⟩ := dec_uniq n (c :: r) (by simpa using h) (by simp) (by simpa using h1) h2.1
      refine ⟨?_, by omega⟩
      rw [Lib.decDigits]
      split
      · omega
      · rw [show (10 * decV (c :: r) + (b.toNat - 48)) / 10 = decV (c :: r) by omega, show (10 * decV (c :: r) + (b.toNat - 48)) % 10 = b.toNat - 48 by omega, i1, eb]

/-- the literal, or 0, that a word is -/
def okN (z : Int) : Bool := z == 0 || fmd z
def numD (w : List UInt8) : Option Int := match numW w with
  | some z => if okN z then some z else none
  | none => none
theorem okN_range {z : Int} (h : okN z = true) : -1048576 ≤ z ∧ z ≤ 1048576 := by
  simp only [okN, Bool.or_eq_true, beq_iff_eq] at h
  rcases h with rfl | h
  · omega
  · have := fmd_range h; omega
theorem numD_itoa {z : Int} (h : okN z = true) : numD (Lib.itoa z) = some z := by
  have := okN_range h
  unfold numD
  rw [numW_itoa z (by omega) (by omega)]
  simp [h]
theorem digs_some {l : List UInt8} {y : Int} (h : digs l = some y) (hy : y ≤ 1048576) : l = Lib.decDigits y.toNat ∧ 0 < y := by
  unfold digs at h
  split at h
  case isFalse => cases h
  rename_i hc
  simp only [Bool.and_eq_true, Bool.not_eq_true', bne_iff_ne, ne_eq] at hc
  have h0 : l ≠ [] := by simpa using hc.1.1
  have e := digs_val h0 hc.1.2 hc.2
  have hu := dec_uniq l.length l rfl h0 hc.1.2 hc.2
  have e2 : digs l = some y := by unfold digs; rw [if_pos (by simp [hc])]; exact h
  rw [e] at e2
  have e3 : min (decV l : Int) 2147483648 = y := by simpa using e2
  have e4 : (decV l : Int) = y := by omega
  refine ⟨?_, by omega⟩
  rw [← e4, Int.toNat_natCast]
  exact hu.1.symm
theorem numD_some {w : List UInt8} {z : Int} (h : numD w = some z) : w = Lib.itoa z ∧ okN z = true := by
  unfold numD at h
  cases hn : numW w with
  | none => rw [hn] at h; cases h
  | some y =>
    rw [hn] at h
    simp only at h
    split at h
    case isFalse => cases h
    rename_i hk
    cases h
    refine ⟨?_, hk⟩
    have hr := okN_range hk
    unfold numW at hn
    split at hn
    · rename_i hh
      cases hd : digs w.tail with
      | none => rw [hd] at hn; cases hn
      | some y =>
        rw [hd] at hn
        have e : -y = z := by simpa using hn
        obtain ⟨e1, e2⟩ := digs_some hd (by omega)
        have hw : w = 45 :: w.tail := by
          cases w with
          | nil => simp at hh
          | cons b r => simp at hh; rw [hh]; rfl
        rw [hw, e1]
        unfold Lib.itoa
        rw [if_pos (by omega)]
        congr 2
        omega
    · split at hn
      · rename_i hh
        have : z = 0 := by simpa using hn.symm
        subst this
        have : w = [48] := by simpa using hh
        rw [this]
        unfold Lib.itoa
        rw [if_neg (by omega), show (0 : Int).toNat = 0 from rfl, Lib.decDigits]; rfl
      · obtain ⟨e1, e2⟩ := digs_some hn (by omega)
        rw [e1]
        unfold Lib.itoa
        rw [if_neg (by omega)]

/-- a byte that may stand in a remark -/
def plB (b : UInt8) : Bool := b == 9 || (decide (32 ≤ b.toNat) && decide (b.toNat ≤ 126))
/-- a word with its line; none: a remark that holds another byte -/
abbrev Tok := Option (List UInt8) × Nat
def one9 (rem : Bool) (cur : List UInt8) (k : Nat) : List Tok := if !rem && !cur.isEmpty then [(some cur, k)] else []
/-- from a place on: the line's number, the word so far, does the line begin here, is it a remark -/
def scan : List UInt8 → Nat → List UInt8 → Bool → Bool → List Tok
  | [], k, cur, _, rem => one9 rem cur k
  | b :: r, k, cur, beg, rem =>
    if rem && b != 10 then (if plB b then scan r k cur false true else [(none, k)])
    else if beg && b == 99 then scan r k cur false true
    else if b == 10 then one9 rem cur k ++ scan r (k + 1) [] true false
    else if isBl b then one9 rem cur k ++ scan r k [] false rem
    else scan r k (cur ++ [b]) false rem
/-- the line behind the last one -/
def endL : List UInt8 → Nat → Bool → Nat
  | [], k, beg => if beg then k else k + 1
  | b :: r, k, beg => if b == 10 then endL r (k + 1) true else endL r k false

/-- the reader: has a step begun, with d, its literals -/
structure RSt where
  op : Bool
  dr : Bool
  cl : List Int
def st0 : RSt := ⟨false, false, []⟩
/-- a word is taken: the reader behind it, the step that is given; none: it can't stand there -/
def takeW (st : RSt) (w : List UInt8) : Option (RSt × List Stp) :=
  if w == [100] && !st.op then some (⟨true, true, st.cl⟩, [])
  else match numD w with
    | none => none
    | some z => if z = 0 then some (⟨false, false, []⟩, [(st.dr, st.cl)]) else some (⟨true, st.dr, st.cl ++ [z]⟩, [])
/-- the steps that are given, the fault's line, and the reader at the end -/
def eatD : List Tok → RSt → List Stp × Option Nat × RSt
  | [], st => ([], none, st)
  | (none, k) :: _, st => ([], some k, st)
  | (some w, k) :: r, st => match takeW st w with
    | none => ([], some k, st)
    | some (st', g) => (g ++ (eatD r st').1, (eatD r st').2)
/-- the steps whose 0 stands ahead of the first fault, and its line (0: there is none) -/
def parD (s : List UInt8) : List Stp × Nat :=
  match eatD (scan s 1 [] true false) st0 with
  | (l, some k, _) => (l, k)
  | (l, none, st) => (l, if st.op then endL s 1 true else 0)

end Go.Proofs.YtbeaoekbppdlmaaDoor
set_option linter.unusedSimpArgs false
set_option linter.unusedVariables false
namespace Go.Proofs.YtbeaoekbppdlmaaDoor
open Go.RowKit

/-- a byte within a word -/
def wdB (b : UInt8) : Bool := !(isBl b) && b != 10
theorem scan_in : ∀ (w : List UInt8) (r : List UInt8) (k : Nat) (cur : List UInt8), w.all wdB = true → scan (w ++ r) k cur false false = scan r k (cur ++ w) false false
  | [], r, k, cur, _ => by simp
  | b :: w, r, k, cur, h => by
    simp only [List.all_cons, Bool.and_eq_true] at h
    have hb := h.1
    simp only [wdB, Bool.and_eq_true, Bool.not_eq_true', bne_iff_ne, ne_eq] at hb
    have h10 : (b == 10) = false := by simpa using hb.2
    rw [List.cons_append, scan]
    simp only [Bool.false_and, h10, hb.1, Bool.false_eq_true, if_false]
    rw [scan_in w r k (cur ++ [b]) h.2]; simp
theorem scan_word {w : List UInt8} (r : List UInt8) (k : Nat) (beg : Bool) (h : w.all wdB = true) (h0 : w ≠ []) (hc : beg = true → w.head? ≠ some 99) : scan (w ++ r) k [] beg false = scan r k w false false := by
  cases w with
  | nil => exact absurd rfl h0
  | cons b w =>
    simp only [List.all_cons, Bool.and_eq_true] at h
    have hb := h.1
    simp only [wdB, Bool.and_eq_true, Bool.not_eq_true', bne_iff_ne, ne_eq] at hb
    have h10 : (b == 10) = false := by simpa using hb.2
    have h99 : (beg && b == 99) = false := by
      cases beg with
      | false => rfl
      | true => have := hc rfl; simpa using this
    rw [List.cons_append, scan]
    simp only [Bool.false_and, h10, hb.1, h99, Bool.false_eq_true, if_false]
    rw [scan_in w r k ([] ++ [b]) h.2]; simp
theorem scan_sp (r : List UInt8) (k : Nat) (cur : List UInt8) (beg : Bool) : scan (32 :: r) k cur beg false = one9 false cur k ++ scan r k [] false false := by
  rw [scan]; cases beg <;> simp [isBl]
theorem scan_nl (r : List UInt8) (k : Nat) (cur : List UInt8) (beg : Bool) : scan (10 :: r) k cur beg false = one9 false cur k ++ scan r (k + 1) [] true false := by
  rw [scan]; cases beg <;> simp
theorem one9_word {w : List UInt8} (k : Nat) (h : w ≠ []) : one9 false w k = [(some w, k)] := by
  cases w with
  | nil => exact absurd rfl h
  | cons b r => rfl
theorem itoa_ne (z : Int) : Lib.itoa z ≠ [] := by
  unfold Lib.itoa; split
  · simp
  · exact dec_ne _
theorem itoa_wd (z : Int) : (Lib.itoa z).all wdB = true := by
  have hd : ∀ u b, b ∈ Lib.decDigits u → wdB b = true := fun u b hb => by
    have := dec_bytes u b hb
    have h1 : b ≠ 32 := by rintro rfl; simp at this
    have h2 : b ≠ 9 := by rintro rfl; simp at this
    have h3 : b ≠ 10 := by rintro rfl; simp at this
    simp [wdB, isBl, h1, h2, h3]
  rw [List.all_eq_true]
  intro b hb
  unfold Lib.itoa at hb
  split at hb
  · rcases List.mem_cons.1 hb with rfl | hb
    · rfl
    · exact hd _ _ hb
  · exact hd _ _ hb
theorem itoa_head (z : Int) : (Lib.itoa z).head? ≠ some 99 := by
  intro e
  have hm : (99 : UInt8) ∈ Lib.itoa z := List.mem_of_mem_head? e
  unfold Lib.itoa at hm
  split at hm
  · rcases List.mem_cons.1 hm with h | h
    · exact absurd h (by decide)
    · have := (dec_bytes _ _ h).2; simp at this
  · have := (dec_bytes _ _ hm).2; simp at this
/-- a step's words -/
def stpW (x : Stp) : List (List UInt8) := (if x.1 then [[100]] else []) ++ x.2.map Lib.itoa ++ [[48]]
def tokW (k : Nat) (ws : List (List UInt8)) : List Tok := ws.map (fun w => (some w, k))
theorem scan_txt : ∀ (c : List Int) (r : List UInt8) (k : Nat) (beg : Bool), ∃ beg', scan (textOf c ++ r) k [] beg false = tokW k (c.map Lib.itoa) ++ scan r k [] beg' false
  | [], r, k, beg => ⟨beg, by simp [textOf, tokW]⟩
  | z :: c, r, k, beg => by
    obtain ⟨b', e⟩ := scan_txt c r k false
    refine ⟨b', ?_⟩
    have e1 : textOf (z :: c) ++ r = Lib.itoa z ++ (32 :: (textOf c ++ r)) := by simp [textOf]
    rw [e1, scan_word _ k beg (itoa_wd z) (itoa_ne z) (fun _ => itoa_head z), scan_sp, one9_word k (itoa_ne z), e]
    simp [tokW]
theorem scan_step (x : Stp) (r : List UInt8) (k : Nat) (beg : Bool) : scan (stpT x ++ r) k [] beg false = tokW k (stpW x) ++ scan r (k + 1) [] true false := by
  have tail : ∀ beg, scan (textOf x.2 ++ ([48, 10] ++ r)) k [] beg false = tokW k (x.2.map Lib.itoa ++ [[48]]) ++ scan r (k + 1) [] true false := fun beg => by
    obtain ⟨b', e⟩ := scan_txt x.2 ([48, 10] ++ r) k beg
    rw [e]
    have : scan ([48] ++ (10 :: r)) k [] b' false = [(some [48], k)] ++ scan r (k + 1) [] true false := by
      rw [scan_word _ k b' (by decide) (by decide) (fun _ => by decide), scan_nl, one9_word k (by decide)]
    rw [show [48, 10] ++ r = [48] ++ (10 :: r) from rfl, this]
    simp [tokW]
  unfold stpT stpW
  cases hx : x.1
  · have := tail beg; simpa [List.append_assoc] using this
  · simp only [if_true, List.append_assoc]
    have e1 : [100, 32] ++ (textOf x.2 ++ ([48, 10] ++ r)) = [100] ++ (32 :: (textOf x.2 ++ ([48, 10] ++ r))) := rfl
    rw [e1, scan_word _ k beg (by decide) (by decide) (fun _ => by decide), scan_sp, one9_word k (by decide), tail false]
    simp [tokW, List.append_assoc]
theorem eat_one {st st' : RSt} {w : List UInt8} {k : Nat} {r : List Tok} {g : List Stp} (h : takeW st w = some (st', g)) : eatD ((some w, k) :: r) st = (g ++ (eatD r st').1, (eatD r st').2) := by
  rw [eatD, h]
theorem take_lit {st : RSt} {z : Int} (h : fmd z = true) : takeW st (Lib.itoa z) = some (⟨true, st.dr, st.cl ++ [z]⟩, []) := by
  have hz : z ≠ 0 := by rintro rfl; revert h; decide
  have hd : (Lib.itoa z == [100]) = false := by
    rw [beq_eq_false_iff_ne]
    intro e
    have hm : (100 : UInt8) ∈ Lib.itoa z := by rw [e]; simp
    unfold Lib.itoa at hm
    split at hm
    · rcases List.mem_cons.1 hm with h | h
      · exact absurd h (by decide)
      · have := (dec_bytes _ _ h).2; simp at this
    · have := (dec_bytes _ _ hm).2; simp at this
  unfold takeW
  rw [hd, numD_itoa (by unfold okN; rw [h]; simp)]
  simp [hz]
theorem take_d {cl : List Int} : takeW ⟨false, false, cl⟩ [100] = some (⟨true, true, cl⟩, []) := rfl
theorem take_0 (st : RSt) : takeW st [48] = some (⟨false, false, []⟩, [(st.dr, st.cl)]) := by
  unfold takeW
  have h1 : (([48] : List UInt8) == [100]) = false := by decide
  have h2 : numD [48] = some 0 := by decide
  rw [h1, h2]; rfl
theorem eat_lits : ∀ (c : List Int) (ks : List Tok) (st : RSt) (r : List Tok), c.all fmd = true → ks.map Prod.fst = c.map (fun z => some (Lib.itoa z)) →
    eatD (ks ++ r) st = eatD r ⟨st.op || !c.isEmpty, st.dr, st.cl ++ c⟩
  | [], ks, st, r, _, hk => by
    have : ks = [] := by simpa using hk
    subst this; simp
  | z :: c, [], st, r, _, hk => by simp at hk
  | z :: c, (w, k) :: ks, st, r, h, hk => by
    simp only [List.all_cons, Bool.and_eq_true] at h
    simp only [List.map_cons, List.cons.injEq] at hk
    obtain ⟨rfl, hk2⟩ := hk
    rw [List.cons_append, eat_one (take_lit h.1), eat_lits c ks _ r h.2 hk2]
    simp
/-- a step's words, wherever they stand: the step is given -/
theorem eat_step (x : Stp) (ks : List Tok) (r : List Tok) (h : x.2.all fmd = true) (hk : ks.map Prod.fst = (stpW x).map some) : eatD (ks ++ r) st0 = (x :: (eatD r st0).1, (eatD r st0).2) := by
  obtain ⟨d, c⟩ := x
  have go : ∀ (ks : List Tok) (op dr : Bool), ks.map Prod.fst = (c.map Lib.itoa ++ [[48]]).map some → eatD (ks ++ r) ⟨op, dr, []⟩ = ((dr, c) :: (eatD r st0).1, (eatD r st0).2) := fun ks op dr hk => by
    have hl : ks.length = c.length + 1 := by have := congrArg List.length hk; simpa using this
    obtain ⟨k1, t, rfl⟩ : ∃ k1 t, ks = k1 ++ [t] := ⟨ks.dropLast, ks.getLast (by intro e; rw [e] at hl; simp at hl), (List.dropLast_concat_getLast _).symm⟩
    obtain ⟨w, k⟩ := t
    simp only [List.map_append, List.map_cons, List.map_nil] at hk
    have hl1 : k1.length = c.length := by simpa using hl
    obtain ⟨e1, e2⟩ := List.append_inj hk (by simp [hl1])
    have e3 : w = some [48] := by simpa using e2
    subst e3
    rw [List.append_assoc, eat_lits c k1 _ _ h (by rw [e1, List.map_map]; rfl), List.singleton_append, eat_one (take_0 _)]
    simp
    exact ⟨rfl, rfl⟩
  unfold stpW at hk
  cases d
  · exact go ks false false (by simpa using hk)
  · cases ks with
    | nil => simp at hk
    | cons t ks =>
      obtain ⟨w, k⟩ := t
      simp at hk
      obtain ⟨rfl, hk2⟩ := hk
      rw [List.cons_append, show st0 = ⟨false, false, []⟩ from rfl, eat_one take_d]
      have := go ks true true (by simpa using hk2)
      rw [this]; rfl
/-- the tokens of a text that was written -/
theorem eat_all : ∀ (l : List Stp) (r : List UInt8) (k : Nat), sndS l = true → ∃ beg, eatD (scan (drW l ++ r) k [] true false) st0 = (l ++ (eatD (scan r (k + l.length) [] beg false) st0).1, (eatD (scan r (k + l.length) [] beg false) st0).2) ∧ beg = true
  | [], r, k, _ => ⟨true, by simp [drW], rfl⟩
  | x :: l, r, k, h => by
    simp only [sndS, List.all_cons, Bool.and_eq_true] at h
    obtain ⟨beg, e, hb⟩ := eat_all l r (k + 1) h.2
    refine ⟨beg, ?_, hb⟩
    have e1 : drW (x :: l) ++ r = stpT x ++ (drW l ++ r) := by simp [drW]
    rw [e1, scan_step, eat_step x _ _ h.1 (by simp [tokW, List.map_map, Function.comp_def]), e]
    simp [Nat.add_assoc, Nat.add_comm 1]
/-- what was written is read back -/
theorem par_back (l : List Stp) (h : sndS l = true) : parD (drW l) = (l, 0) := by
  obtain ⟨beg, e, rfl⟩ := eat_all l [] 1 h
  rw [List.append_nil] at e
  unfold parD
  rw [e]
  simp [scan, one9, eatD, st0]
/-- what stands ahead of a foreign word is given -/
theorem par_foreign (a : List Stp) (f t : List UInt8) (h : sndS a = true) (hw : f.all wdB = true) (h0 : f ≠ []) (hn : numD f = none) : parD (drW a ++ ([49, 32] ++ (f ++ (32 :: t)))) = (a, a.length + 1) := by
  obtain ⟨beg, e, rfl⟩ := eat_all a ([49, 32] ++ (f ++ (32 :: t))) 1 h
  unfold parD
  have e2 : scan ([49, 32] ++ (f ++ (32 :: t))) (1 + a.length) [] true false = (some [49], 1 + a.length) :: (some f, 1 + a.length) :: scan t (1 + a.length) [] false false := by
    rw [show [49, 32] ++ (f ++ (32 :: t)) = [49] ++ (32 :: (f ++ (32 :: t))) from rfl, scan_word _ _ true (by decide) (by decide) (fun _ => by decide), scan_sp, one9_word _ (by decide), scan_word _ _ false hw h0 (fun h => by cases h), scan_sp, one9_word _ h0]
    rfl
  have e3 : takeW st0 [49] = some (⟨true, false, [1]⟩, []) := by
    unfold takeW; rw [show numD [49] = some 1 by decide]; rfl
  have e4 : takeW ⟨true, false, [1]⟩ f = none := by unfold takeW; rw [hn]; simp
  rw [e, e2, eat_one e3, eatD, e4]
  simp [Nat.add_comm]

end Go.Proofs.YtbeaoekbppdlmaaDoor
set_option linter.unusedSimpArgs false
set_option linter.unusedVariables false
namespace Go.Proofs.YtbeaoekbppdlmaaDoor
open Go.RowKit

/-- lines, with what is had of the first -/
def lnsF : List UInt8 → List UInt8 → List (List UInt8)
  | [], cur => if cur = [] then [] else [cur]
  | b :: r, cur => if b = 10 then cur :: lnsF r [] else lnsF r (cur ++ [b])
/-- words, with what is had of the first -/
def wdsF : List UInt8 → List UInt8 → List (List UInt8)
  | [], cur => if cur = [] then [] else [cur]
  | b :: r, cur => if isBl b then (if cur = [] then [] else [cur]) ++ wdsF r [] else wdsF r (cur ++ [b])
/-- a line's tokens, and those of all -/
def tokL (k : Nat) (ln : List UInt8) : List Tok := if ln.head? = some 99 then (if ln.all plB then [] else [(none, k)]) else (wdsF ln []).map (fun w => (some w, k))
def toks : Nat → List (List UInt8) → List Tok
  | _, [] => []
  | k, ln :: r => tokL k ln ++ toks (k + 1) r
/-- is there a line's end -/
def hasN : List UInt8 → Bool
  | [] => false
  | b :: r => b == 10 || hasN r
theorem lnsF_cut : ∀ (s cur : List UInt8), (s ≠ [] ∨ cur ≠ []) → lnsF s cur = (cur ++ (cutN s).1) :: (if hasN s then lnsF (cutN s).2 [] else [])
  | [], cur, h => by
    have : cur ≠ [] := by simpa using h
    simp [lnsF, cutN, hasN, this]
  | b :: r, cur, _ => by
    by_cases hb : b = 10
    · subst hb; simp [lnsF, cutN, hasN]
    · have hb2 : (b == 10) = false := by simpa using hb
      rw [lnsF, if_neg hb, lnsF_cut r (cur ++ [b]) (.inr (by simp))]
      simp [cutN, hasN, hb2, hb]
theorem scan_words : ∀ (s : List UInt8) (k : Nat) (cur : List UInt8), scan s k cur false false = (wdsF (cutN s).1 cur).map (fun w => (some w, k)) ++ (if hasN s then scan (cutN s).2 (k + 1) [] true false else [])
  | [], k, cur => by
    cases cur <;> simp [scan, one9, cutN, wdsF, hasN]
  | b :: r, k, cur => by
    by_cases hb : b = 10
    · subst hb
      cases cur <;> simp [scan, one9, cutN, wdsF, hasN]
    · have hb2 : (b == 10) = false := by simpa using hb
      rw [scan]
      simp only [Bool.false_and, Bool.false_eq_true, if_false, hb2]
      cases hB : isBl b
      · simp only [Bool.false_eq_true, if_false]
        rw [scan_words r k (cur ++ [b])]
        simp [cutN, hb2, hb, wdsF, hB, hasN]
      · simp only [if_true]
        rw [scan_words r k []]
        cases cur <;> simp [cutN, hb2, hb, wdsF, hB, hasN, one9]
theorem scan_rem : ∀ (s : List UInt8) (k : Nat) (cur : List UInt8), scan s k cur false true = if (cutN s).1.all plB then (if hasN s then scan (cutN s).2 (k + 1) [] true false else []) else [(none, k)]
  | [], k, cur => by simp [scan, one9, cutN, hasN]
  | b :: r, k, cur => by
    by_cases hb : b = 10
    · subst hb; simp [scan, one9, cutN, hasN]
    · have hb2 : (b == 10) = false := by simpa using hb
      have hb3 : (b != 10) = true := by simpa using hb
      rw [scan]
      simp only [hb3, Bool.and_self, if_true, Bool.true_and]
      cases hp : plB b
      · simp [cutN, hb2, hb, hp]
      · simp only [if_true]
        rw [scan_rem r k cur]
        simp [cutN, hb2, hb, hp, hasN]
theorem eat_app (A B : List Tok) : ∀ st, eatD (A ++ B) st = match (eatD A st).2.1 with
    | some k => eatD A st
    | none => ((eatD A st).1 ++ (eatD B (eatD A st).2.2).1, (eatD B (eatD A st).2.2).2) := by
  induction A with
  | nil => intro st; simp [eatD]
  | cons t r ih =>
    intro st
    obtain ⟨o, k⟩ := t
    cases o with
    | none => simp [eatD]
    | some w =>
      rw [List.cons_append, eatD, eatD]
      cases ht : takeW st w with
      | none => simp
      | some x =>
        simp only
        rw [ih x.1]
        cases hf : (eatD r x.1).2.1 with
        | some j => simp [hf]
        | none => simp [hf, List.append_assoc]
theorem eat_same {A B C : List Tok} (h : ∀ st, eatD B st = eatD C st) (st : RSt) : eatD (A ++ B) st = eatD (A ++ C) st := by
  rw [eat_app, eat_app]
  cases (eatD A st).2.1 with
  | some k => rfl
  | none => simp only; rw [h]
/-- the tokens of a text are those of its lines -/
theorem scan_toks : ∀ (n : Nat) (s : List UInt8) (k : Nat) (st : RSt), s.length ≤ n → eatD (scan s k [] true false) st = eatD (toks k (lnsF s [])) st
  | n, [], k, st, _ => by simp [scan, one9, lnsF, toks]
  | 0, b :: r, k, st, h => by simp at h
  | n + 1, b :: r, k, st, h => by
    have hlen := cutN_lt (s := b :: r) (by simp)
    rw [lnsF_cut (b :: r) [] (.inl (by simp)), List.nil_append, toks]
    have ih : ∀ st, eatD (if hasN (b :: r) then scan (cutN (b :: r)).2 (k + 1) [] true false else []) st = eatD (toks (k + 1) (if hasN (b :: r) then lnsF (cutN (b :: r)).2 [] else [])) st := fun st => by
      split
      · exact scan_toks n _ (k + 1) st (by simp at h hlen ⊢; omega)
      · rfl
    have key : (tokL k (cutN (b :: r)).1 = [(none, k)] ∧ scan (b :: r) k [] true false = [(none, k)]) ∨ scan (b :: r) k [] true false = tokL k (cutN (b :: r)).1 ++ (if hasN (b :: r) then scan (cutN (b :: r)).2 (k + 1) [] true false else []) := by
      by_cases hc : b = 99
      · subst hc
        rw [scan]
        simp only [Bool.false_and, Bool.false_eq_true, if_false, Bool.true_and, beq_self_eq_true, if_true]
        rw [scan_rem]
        have e1 : (cutN (99 :: r)).1 = 99 :: (cutN r).1 := by simp [cutN]
        have e2 : (cutN (99 :: r)).2 = (cutN r).2 := by simp [cutN]
        have e3 : hasN (99 :: r) = hasN r := by simp [hasN]
        have e4 : (99 :: (cutN r).1).all plB = (cutN r).1.all plB := by
          rw [List.all_cons]; have : plB 99 = true := by decide
          rw [this]; rfl
        unfold tokL
        rw [e1, e2, e3, List.head?_cons, if_pos rfl, e4]
        cases (cutN r).1.all plB
        · left; simp
        · right; simp
      · right
        have hc2 : (b == 99) = false := by simpa using hc
        by_cases hb : b = 10
        · subst hb
          rw [scan]; simp [one9, cutN, hasN, tokL, wdsF]
        · have hb2 : (b == 10) = false := by simpa using hb
          have e1 : (cutN (b :: r)).1 = b :: (cutN r).1 := by simp [cutN, hb2, hb]
          have e2 : (cutN (b :: r)).2 = (cutN r).2 := by simp [cutN, hb2, hb]
          have e3 : hasN (b :: r) = hasN r := by simp [hasN, hb2, hb]
          have e4 : (b :: (cutN r).1).head? ≠ some 99 := by simpa using hc
          unfold tokL
          rw [e1, e2, e3, if_neg e4]
          rw [scan]
          simp only [Bool.false_and, Bool.false_eq_true, if_false, Bool.true_and, hc2, hb2]
          cases hB : isBl b
          · simp only [Bool.false_eq_true, if_false]
            rw [scan_words]; simp [wdsF, hB]
          · simp only [if_true]
            rw [scan_words]; simp [wdsF, hB, one9]
    rcases key with ⟨hT, hA⟩ | hA
    · rw [hA, hT]; simp [eatD]
    · rw [hA]; exact eat_same ih st
theorem end_lines : ∀ (s cur : List UInt8) (k : Nat), endL s k (decide (cur = [])) = (lnsF s cur).length + k
  | [], cur, k => by
    by_cases h : cur = []
    · simp [endL, lnsF, h]
    · simp [endL, lnsF, h]; omega
  | b :: r, cur, k => by
    by_cases hb : b = 10
    · subst hb
      have := end_lines r [] (k + 1)
      simp only [decide_true] at this
      simp [endL, lnsF, this]; omega
    · have hb2 : (b == 10) = false := by simpa using hb
      have := end_lines r (cur ++ [b]) k
      have e : decide (cur ++ [b] = []) = false := by simp
      rw [e] at this
      simp [endL, lnsF, hb, hb2, this]
/-- what is read of a text, by its lines -/
theorem par_lines (s : List UInt8) : parD s = (let r := eatD (toks 1 (lnsF s [])) st0; (r.1, match r.2.1 with | some k => k | none => if r.2.2.op then (lnsF s []).length + 1 else 0)) := by
  have h1 := scan_toks s.length s 1 st0 (Nat.le_refl _)
  have h2 : endL s 1 true = (lnsF s []).length + 1 := by have := end_lines s [] 1; simpa using this
  unfold parD
  rw [h1, h2]
  cases eatD (toks 1 (lnsF s [])) st0 with
  | mk l x =>
    obtain ⟨o, st⟩ := x
    cases o <;> rfl

end Go.Proofs.YtbeaoekbppdlmaaDoor
