/-
  What an answer's text says, word by word: in plain words.
  KEEP: nil below form mono app grown rdz
-/
import Derived.Test.YtpebpnbikdahkaaDoorRdP
set_option linter.unusedSimpArgs false
set_option linter.unusedVariables false
namespace Go.Proofs.YtpebpnbikdahkaaDoor
open Go.RowKit

def yesW : List UInt8 := [83, 65, 84, 73, 83, 70, 73, 65, 66, 76, 69]
def noW : List UInt8 := [85, 78, 83, 65, 84, 73, 83, 70, 73, 65, 66, 76, 69]
/-- the words behind the first line: p the line of the word ahead; has the model ended; its truths; what is wrong -/
def eatA : List (List UInt8 × Nat) → Nat → Bool → List Bool → List Bool × Bool × Option (Int × Nat)
  | [], _, en, m => (m, en, none)
  | (w, j) :: r, p, en, m =>
    if j ≠ p then (if w = [118] then eatA r j en m else (m, en, some (35, j)))
    else if en then (m, en, some (35, j))
    else match numW w with
      | none => (m, en, some (31, j))
      | some z => if z = 0 then eatA r j true m else if varOf z = (m.length : Int) + 1 then eatA r j en (m ++ [decide (0 < z)]) else (m, en, some (32, j))
/-- an answer: does it say that there is a model, the model, error, line -/
structure AnA where
  sat : Bool
  mod : List Bool
  err : Int
  line : Nat
def finA (n : Nat) : List Bool × Bool × Option (Int × Nat) → AnA
  | (_, _, some (e, j)) => ⟨false, [], e, j⟩
  | (m, en, none) => if en then ⟨true, m, 0, 0⟩ else ⟨false, [], 33, n + 1⟩
/-- the first line's words say yes, or no -/
def toldW (ws : List (List UInt8)) : Option Bool := if ws = [[115], yesW] then some true else if ws = [[115], noW] then some false else none
def anF (s : List UInt8) : AnA :=
  match nxt 1 (linesOf s) with
  | none => ⟨false, [], 35, (linesOf s).length + 1⟩
  | some (l, k, r) =>
    match toldW (wordsOf l) with
    | none => ⟨false, [], 35, k⟩
    | some false => match spoken (k + 1) r with
      | [] => ⟨false, [], 0, 0⟩
      | (_, j) :: _ => ⟨false, [], 35, j⟩
    | some true => finA (linesOf s).length (eatA (spoken (k + 1) r) k false [])
theorem eatA_line {w : List UInt8} {j p : Nat} {r : List (List UInt8 × Nat)} {en : Bool} {m : List Bool} (h : j ≠ p) (hw : w = [118]) : eatA ((w, j) :: r) p en m = eatA r j en m := by rw [eatA, if_pos h, if_pos hw]
theorem eatA_bad {w : List UInt8} {j p : Nat} {r : List (List UInt8 × Nat)} {en : Bool} {m : List Bool} (h : j ≠ p) (hw : w ≠ [118]) : eatA ((w, j) :: r) p en m = (m, en, some (35, j)) := by rw [eatA, if_pos h, if_neg hw]
theorem eatA_end {w : List UInt8} {j : Nat} {r : List (List UInt8 × Nat)} {m : List Bool} : eatA ((w, j) :: r) j true m = (m, true, some (35, j)) := by rw [eatA, if_neg (by simp), if_pos rfl]
theorem eatA_none {w : List UInt8} {j : Nat} {r : List (List UInt8 × Nat)} {m : List Bool} (h : numW w = none) : eatA ((w, j) :: r) j false m = (m, false, some (31, j)) := by rw [eatA, if_neg (by simp), if_neg (by simp), h]
theorem eatA_zero {w : List UInt8} {j : Nat} {r : List (List UInt8 × Nat)} {m : List Bool} (h : numW w = some 0) : eatA ((w, j) :: r) j false m = eatA r j true m := by rw [eatA, if_neg (by simp), if_neg (by simp), h]; simp
theorem eatA_more {w : List UInt8} {j : Nat} {r : List (List UInt8 × Nat)} {m : List Bool} {z : Int} (h : numW w = some z) (hz : z ≠ 0) (hv : varOf z = (m.length : Int) + 1) : eatA ((w, j) :: r) j false m = eatA r j false (m ++ [decide (0 < z)]) := by
  rw [eatA, if_neg (by simp), if_neg (by simp), h]; simp only; rw [if_neg hz, if_pos hv]
theorem eatA_lit {w : List UInt8} {j : Nat} {r : List (List UInt8 × Nat)} {m : List Bool} {z : Int} (h : numW w = some z) (hz : z ≠ 0) (hv : varOf z ≠ (m.length : Int) + 1) : eatA ((w, j) :: r) j false m = (m, false, some (32, j)) := by
  rw [eatA, if_neg (by simp), if_neg (by simp), h]; simp only; rw [if_neg hz, if_neg hv]
end Go.Proofs.YtpebpnbikdahkaaDoor
