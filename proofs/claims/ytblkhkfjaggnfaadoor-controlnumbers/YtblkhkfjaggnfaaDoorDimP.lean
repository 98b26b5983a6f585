/-
  What Write and WriteAnswer write: in plain words.
-/
import Derived.Test.YtblkhkfjaggnfaaDoorText
set_option linter.unusedSimpArgs false
set_option linter.unusedVariables false
namespace Go.Proofs.YtblkhkfjaggnfaaDoor
open Go.RowKit

/-- the lines of the clauses -/
def bodyOf (css : List (List Int)) : List UInt8 := css.flatMap (fun c => textOf c ++ [48, 10])
/-- the head -/
def headOf (n : Int) (k : Nat) : List UInt8 := ((([112, 32, 99, 110, 102, 32] ++ Lib.itoa n) ++ [32]) ++ Lib.itoa k) ++ [10]
/-- a formula's text -/
def wrF (n : Int) (css : List (List Int)) : List UInt8 := headOf n css.length ++ bodyOf css
theorem bodyOf_more (css : List (List Int)) (k : Nat) (h : k < css.length) : bodyOf (css.take (k + 1)) = bodyOf (css.take k) ++ textOf (css.getD k []) ++ [48, 10] := by
  rw [take_succ_getD css [] k h]; simp [bodyOf]
theorem bodyOf_take_le (css : List (List Int)) (k : Nat) : (bodyOf (css.take k)).length ≤ (bodyOf css).length := by
  have e : bodyOf css = bodyOf (css.take k) ++ bodyOf (css.drop k) := by
    unfold bodyOf; rw [← List.flatMap_append, List.take_append_drop]
  rw [e]; simp
theorem textOf_take_le (c : List Int) (k : Nat) : (textOf (c.take k)).length ≤ (textOf c).length := by
  have e : textOf c = textOf (c.take k) ++ textOf (c.drop k) := by
    unfold textOf; rw [← List.flatMap_append, List.take_append_drop]
  rw [e]; simp
theorem wr_pre (n : Int) (css : List (List Int)) (k j : Nat) (h : k < css.length) : ((headOf n css.length ++ bodyOf (css.take k)) ++ textOf ((css.getD k []).take j)).length + 2 ≤ (wrF n css).length := by
  have h1 := bodyOf_take_le css (k + 1)
  rw [bodyOf_more css k h] at h1
  have h2 := textOf_take_le (css.getD k []) j
  simp only [wrF, List.length_append, List.length_cons, List.length_nil] at *
  omega
theorem bodyOf_len (n : Int) : ∀ css : List (List Int), css.all (fitsP n) = true → (bodyOf css).length ≤ 22 * (css.map List.length).sum + 2 * css.length
  | [], _ => by simp [bodyOf]
  | c :: css, h => by
    simp only [List.all_cons, Bool.and_eq_true] at h
    have e : bodyOf (c :: css) = (textOf c ++ [48, 10]) ++ bodyOf css := by simp [bodyOf]
    have h1 := textOf_len c (fun x hx => by
      have := List.all_eq_true.1 h.1 x hx
      simp only [Bool.and_eq_true] at this
      exact this.1)
    have h2 := bodyOf_len n css h.2
    rw [e]
    simp only [List.length_append, List.length_cons, List.length_nil, List.map_cons, List.sum_cons]
    omega
theorem wrF_len (n : Int) (css : List (List Int)) (h : frm n css = true) (hc : css.length ≤ 4611686018427387904) : (wrF n css).length ≤ 22 * (css.map List.length).sum + 2 * css.length + 60 := by
  simp only [frm, Bool.and_eq_true, decide_eq_true_eq] at h
  have h1 := bodyOf_len n css h.2
  have h2 := Lib.itoa_length_le n (by omega) (by omega)
  have h3 := Lib.itoa_length_le (css.length : Int) (by omega) (by omega)
  simp only [wrF, headOf, List.length_append, List.length_cons, List.length_nil]
  omega
/-- the number that is put for the variable k + 1 -/
def numAt (m : List Bool) (k : Nat) : Int := if m.getD k false then (k : Int) + 1 else -((k : Int) + 1)
/-- the numbers of a model, with the 0 at the end -/
def numsOf (m : List Bool) : List Int := (List.range m.length).map (numAt m) ++ [0]
/-- a word is put behind: what is done, and the line -/
def putW (st : List UInt8 × List UInt8) (d : List UInt8) : List UInt8 × List UInt8 :=
  if 78 < st.2.length + 1 + d.length then (st.1 ++ st.2 ++ [10], [118] ++ [32] ++ d) else (st.1, st.2 ++ [32] ++ d)
def putN (st : List UInt8 × List UInt8) (z : Int) : List UInt8 × List UInt8 := putW st (Lib.itoa z)
/-- "s SATISFIABLE", "s UNSATISFIABLE", with their line feeds -/
def satL : List UInt8 := [115, 32, 83, 65, 84, 73, 83, 70, 73, 65, 66, 76, 69, 10]
def unsL : List UInt8 := [115, 32, 85, 78, 83, 65, 84, 73, 83, 70, 73, 65, 66, 76, 69, 10]
def putTo (m : List Bool) (k : Nat) : List UInt8 × List UInt8 := ((List.range k).map (numAt m)).foldl putN (satL, [118])
theorem putTo_succ (m : List Bool) (k : Nat) : putTo m (k + 1) = putN (putTo m k) (numAt m k) := by
  simp [putTo, List.range_succ]
def ansT (m : List Bool) : List UInt8 := (putN (putTo m m.length) 0).1 ++ (putN (putTo m m.length) 0).2 ++ [10]
/-- an answer's text -/
def ansF (sat : Bool) (m : List Bool) : List UInt8 := if sat then ansT m else unsL
theorem putN_len (st : List UInt8 × List UInt8) (z : Int) (h : -9223372036854775808 ≤ z) (h' : z < 9223372036854775808) : (putN st z).1.length + (putN st z).2.length ≤ st.1.length + st.2.length + 25 := by
  have := Lib.itoa_length_le z (by omega) (by omega)
  unfold putN putW
  split <;> simp <;> omega
theorem numAt_range (m : List Bool) (k : Nat) (h : k < 4611686018427387904) : -4611686018427387905 ≤ numAt m k ∧ numAt m k ≤ 4611686018427387904 := by
  unfold numAt; split <;> omega
theorem putTo_len (m : List Bool) (k : Nat) (h : k < 4611686018427387904) : (putTo m k).1.length + (putTo m k).2.length ≤ 15 + 25 * k := by
  induction k with
  | zero => simp [putTo, satL]
  | succ k ih =>
    have hk := ih (by omega)
    have hr := numAt_range m k (by omega)
    have := putN_len (putTo m k) (numAt m k) (by omega) (by omega)
    rw [putTo_succ]; omega
theorem putN_line (st : List UInt8 × List UInt8) (z : Int) (h : -9223372036854775808 ≤ z) (h' : z < 9223372036854775808) (hl : st.2.length ≤ 78) : (putN st z).2.length ≤ 78 := by
  have := Lib.itoa_length_le z (by omega) (by omega)
  unfold putN putW
  split <;> simp <;> omega

end Go.Proofs.YtblkhkfjaggnfaaDoor
