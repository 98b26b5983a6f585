/-
  What drat reads and writes: words with their lines, steps, faults: in plain words.
  KEEP: nil below form mono app grown rdz
-/
import Derived.Test.YtblkhkfjaggnfaaDoorRdP
import Derived.Test.YtblkhkfjaggnfaaDoorStpA
set_option linter.unusedSimpArgs false
set_option linter.unusedVariables false
namespace Go.Proofs.YtblkhkfjaggnfaaDoor
open Go.RowKit

/-- a step's line, and the text of all -/
def stpT (x : Stp) : List UInt8 := ((if x.1 then [100, 32] else []) ++ textOf x.2) ++ [48, 10]
def drW (l : List Stp) : List UInt8 := l.flatMap stpT
def sndS (l : List Stp) : Bool := l.all (fun x => x.2.all fmd)

theorem drW_more (l : List Stp) (k : Nat) (h : k < l.length) : drW (l.take (k + 1)) = drW (l.take k) ++ stpT (l.getD k (false, [])) := by
  rw [take_succ_getD l (false, []) k h]; simp [drW]
theorem drW_append (a b : List Stp) : drW (a ++ b) = drW a ++ drW b := by simp [drW]
theorem drW_take_le (l : List Stp) (k : Nat) : (drW (l.take k)).length ≤ (drW l).length := by
  have e : drW l = drW (l.take k) ++ drW (l.drop k) := by rw [← drW_append, List.take_append_drop]
  rw [e]; simp
theorem txt_take_le (c : List Int) (k : Nat) : (textOf (c.take k)).length ≤ (textOf c).length := by
  have e : textOf c = textOf (c.take k) ++ textOf (c.drop k) := by
    unfold textOf; rw [← List.flatMap_append, List.take_append_drop]
  rw [e]; simp
theorem dr_pre (l : List Stp) (k j : Nat) (h : k < l.length) : ((drW (l.take k) ++ (if (l.getD k (false, [])).1 then [100, 32] else [])) ++ textOf ((l.getD k (false, [])).2.take j)).length + 2 ≤ (drW l).length := by
  have h1 := drW_take_le l (k + 1)
  rw [drW_more l k h] at h1
  have h2 := txt_take_le (l.getD k (false, [])).2 j
  simp only [stpT, List.length_append, List.length_cons, List.length_nil] at *
  omega
theorem drW_len : ∀ l : List Stp, sndS l = true → (drW l).length ≤ 22 * (l.map (fun x => x.2.length)).sum + 4 * l.length
  | [], _ => by simp [drW]
  | x :: l, h => by
    simp only [sndS, List.all_cons, Bool.and_eq_true] at h
    have e : drW (x :: l) = stpT x ++ drW l := by simp [drW]
    have h1 := textOf_len x.2 (fun y hy => List.all_eq_true.1 h.1 y hy)
    have h2 := drW_len l h.2
    have h3 : ((if x.1 then [100, 32] else [] : List UInt8)).length ≤ 2 := by split <;> simp
    rw [e]
    simp only [stpT, List.length_append, List.length_cons, List.length_nil, List.map_cons, List.sum_cons]
    omega

/-- digits are the number's own -/
theorem dec_uniq : ∀ (n : Nat) (l : List UInt8), l.length = n → l ≠ [] → l.head? ≠ some 48 → l.all isDg = true → Lib.decDigits (decV l) = l ∧ 0 < decV l
  | 0, l, h, h0, _, _ => absurd (List.length_eq_zero_iff.1 h) h0
  | n + 1, l, h, h0, h1, h2 => by
    obtain ⟨r, b, rfl⟩ : ∃ r b, l = r ++ [b] := ⟨l.dropLast, l.getLast h0, (List.dropLast_concat_getLast h0).symm⟩
    simp only [List.all_append, List.all_cons, List.all_nil, Bool.and_true, Bool.and_eq_true] at h2
    have hb := h2.2
    simp only [isDg, Bool.and_eq_true, decide_eq_true_eq] at hb
    have ev : decV (r ++ [b]) = 10 * decV r + (b.toNat - 48) := by simp [decV]
    have eb : UInt8.ofNat (48 + (b.toNat - 48)) = b := by apply UInt8.toNat_inj.1; simp [UInt8.toNat_ofNat']; omega
    rw [ev]
    cases r with
    | nil =>
      have e0 : decV [] = 0 := rfl
      have hn : b ≠ 48 := by intro e; subst e; exact h1 rfl
      have hb1 : b.toNat ≠ 48 := fun e => hn (UInt8.toNat_inj.1 (by rw [e]; rfl))
      rw [e0, show 10 * 0 + (b.toNat - 48) = b.toNat - 48 by omega]
      refine ⟨?_, by omega⟩
      rw [Lib.decDigits]
      split
      · rw [eb]; rfl
      · omega
    | cons c r =>
      obtain ⟨i1, i2⟩ := dec_uniq n (c :: r) (by simpa using h) (by simp) (by simpa using h1) h2.1
      refine ⟨?_, by omega⟩
      rw [Lib.decDigits]
      split
      · omega
      · rw [show (10 * decV (c :: r) + (b.toNat - 48)) / 10 = decV (c :: r) by omega, show (10 * decV (c :: r) + (b.toNat - 48)) % 10 = b.toNat - 48 by omega, i1, eb]

/-- the literal, or 0, that a word is -/
def okN (z : Int) : Bool := z == 0 || fmd z
def numD (w : List UInt8) : Option Int := match numW w with
  | some z => if okN z then some z else none
  | none => none
theorem okN_range {z : Int} (h : okN z = true) : -1048576 ≤ z ∧ z ≤ 1048576 := by
  simp only [okN, Bool.or_eq_true, beq_iff_eq] at h
  rcases h with rfl | h
  · omega
  · have := fmd_range h; omega
theorem numD_itoa {z : Int} (h : okN z = true) : numD (Lib.itoa z) = some z := by
  have := okN_range h
  unfold numD
  rw [numW_itoa z (by omega) (by omega)]
  simp [h]
theorem digs_some {l : List UInt8} {y : Int} (h : digs l = some y) (hy : y ≤ 1048576) : l = Lib.decDigits y.toNat ∧ 0 < y := by
  unfold digs at h
  split at h
  case isFalse => cases h
  rename_i hc
  simp only [Bool.and_eq_true, Bool.not_eq_true', bne_iff_ne, ne_eq] at hc
  have h0 : l ≠ [] := by simpa using hc.1.1
  have e := digs_val h0 hc.1.2 hc.2
  have hu := dec_uniq l.length l rfl h0 hc.1.2 hc.2
  have e2 : digs l = some y := by unfold digs; rw [if_pos (by simp [hc])]; exact h
  rw [e] at e2
  have e3 : min (decV l : Int) 2147483648 = y := by simpa using e2
  have e4 : (decV l : Int) = y := by omega
  refine ⟨?_, by omega⟩
  rw [← e4, Int.toNat_natCast]
  exact hu.1.symm
theorem numD_some {w : List UInt8} {z : Int} (h : numD w = some z) : w = Lib.itoa z ∧ okN z = true := by
  unfold numD at h
  cases hn : numW w with
  | none => rw [hn] at h; cases h
  | some y =>
    rw [hn] at h
    simp only at h
    split at h
    case isFalse => cases h
    rename_i hk
    cases h
    refine ⟨?_, hk⟩
    have hr := okN_range hk
    unfold numW at hn
    split at hn
    · rename_i hh
      cases hd : digs w.tail with
      | none => rw [hd] at hn; cases hn
      | some y =>
        rw [hd] at hn
        have e : -y = z := by simpa using hn
        obtain ⟨e1, e2⟩ := digs_some hd (by omega)
        have hw : w = 45 :: w.tail := by
          cases w with
          | nil => simp at hh
          | cons b r => simp at hh; rw [hh]; rfl
        rw [hw, e1]
        unfold Lib.itoa
        rw [if_pos (by omega)]
        congr 2
        omega
    · split at hn
      · rename_i hh
        have : z = 0 := by simpa using hn.symm
        subst this
        have : w = [48] := by simpa using hh
        rw [this]
        unfold Lib.itoa
        rw [if_neg (by omega), show (0 : Int).toNat = 0 from rfl, Lib.decDigits]; rfl
      · obtain ⟨e1, e2⟩ := digs_some hn (by omega)
        rw [e1]
        unfold Lib.itoa
        rw [if_neg (by omega)]

/-- a byte that may stand in a remark -/
def plB (b : UInt8) : Bool := b == 9 || (decide (32 ≤ b.toNat) && decide (b.toNat ≤ 126))
/-- a word with its line; none: a remark that holds another byte -/
abbrev Tok := Option (List UInt8) × Nat
def one9 (rem : Bool) (cur : List UInt8) (k : Nat) : List Tok := if !rem && !cur.isEmpty then [(some cur, k)] else []
/-- from a place on: the line's number, the word so far, does the line begin here, is it a remark -/
def scan : List UInt8 → Nat → List UInt8 → Bool → Bool → List Tok
  | [], k, cur, _, rem => one9 rem cur k
  | b :: r, k, cur, beg, rem =>
    if rem && b != 10 then (if plB b then scan r k cur false true else [(none, k)])
    else if beg && b == 99 then scan r k cur false true
    else if b == 10 then one9 rem cur k ++ scan r (k + 1) [] true false
    else if isBl b then one9 rem cur k ++ scan r k [] false rem
    else scan r k (cur ++ [b]) false rem
/-- the line behind the last one -/
def endL : List UInt8 → Nat → Bool → Nat
  | [], k, beg => if beg then k else k + 1
  | b :: r, k, beg => if b == 10 then endL r (k + 1) true else endL r k false

/-- the reader: has a step begun, with d, its literals -/
structure RSt where
  op : Bool
  dr : Bool
  cl : List Int
def st0 : RSt := ⟨false, false, []⟩
/-- a word is taken: the reader behind it, the step that is given; none: it can't stand there -/
def takeW (st : RSt) (w : List UInt8) : Option (RSt × List Stp) :=
  if w == [100] && !st.op then some (⟨true, true, st.cl⟩, [])
  else match numD w with
    | none => none
    | some z => if z = 0 then some (⟨false, false, []⟩, [(st.dr, st.cl)]) else some (⟨true, st.dr, st.cl ++ [z]⟩, [])
/-- the steps that are given, the fault's line, and the reader at the end -/
def eatD : List Tok → RSt → List Stp × Option Nat × RSt
  | [], st => ([], none, st)
  | (none, k) :: _, st => ([], some k, st)
  | (some w, k) :: r, st => match takeW st w with
    | none => ([], some k, st)
    | some (st', g) => (g ++ (eatD r st').1, (eatD r st').2)
/-- the steps whose 0 stands ahead of the first fault, and its line (0: there is none) -/
def parD (s : List UInt8) : List Stp × Nat :=
  match eatD (scan s 1 [] true false) st0 with
  | (l, some k, _) => (l, k)
  | (l, none, st) => (l, if st.op then endL s 1 true else 0)

end Go.Proofs.YtblkhkfjaggnfaaDoor
