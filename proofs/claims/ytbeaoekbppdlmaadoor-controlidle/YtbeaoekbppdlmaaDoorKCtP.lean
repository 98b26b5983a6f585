/-
  Stanzas, in plain words: blanks, letters, fair lines, names, pieces. No program here.
  KEEP: len below nil form rd mono on app start at new trans refl kept own row out grown rdz set one more lt size cell some none letL tail next step go add put del get look no yes e c f b k n m box
-/
import Derived.Test.YtbeaoekbppdlmaaDoorKRdU
import Derived.Test.YtbeaoekbppdlmaaDoorVsP
set_option linter.unusedSimpArgs false
set_option linter.unusedVariables false
namespace Go.Proofs.YtbeaoekbppdlmaaDoor
open Go Go.RowKit

def blZ (z : Int) : Bool := z == 32 || z == 9
theorem blZ_byte (b : UInt8) : blZ (b.toNat : Int) = isBl b := by
  unfold blZ isBl
  have e : ∀ x : UInt8, ((b.toNat : Int) == (x.toNat : Int)) = (b == x) := fun x => by
    rw [Bool.eq_iff_iff]
    simp only [beq_iff_eq]
    exact ⟨fun h => UInt8.toNat_inj.1 (by omega), fun h => by rw [h]⟩
  rw [← e 32, ← e 9]; rfl
def trL (l : List UInt8) : List UInt8 := l.dropWhile isBl
def trR (l : List UInt8) : List UInt8 := (l.reverse.dropWhile isBl).reverse
/-- the text without the blanks at its ends -/
def trF (l : List UInt8) : List UInt8 := trR (trL l)
theorem trL_yes {b : UInt8} {r : List UInt8} (h : isBl b = true) : trL (b :: r) = trL r := by simp [trL, h]
theorem trL_no {b : UInt8} {r : List UInt8} (h : isBl b = false) : trL (b :: r) = b :: r := by simp [trL, h]
theorem trR_yes {b : UInt8} {r : List UInt8} (h : isBl b = true) : trR (r ++ [b]) = trR r := by simp [trR, h]
theorem trR_no {b : UInt8} {r : List UInt8} (h : isBl b = false) : trR (r ++ [b]) = r ++ [b] := by simp [trR, h]
theorem ba_last {s : ByteArray} (h : 0 < s.size) : s.data.toList = (s.extract 0 (s.size - 1)).data.toList ++ [s[s.size - 1]'(by omega)] := by
  have hl := ba_len s
  rw [ext_list, List.drop_zero, Nat.sub_zero]
  have h1 : s.size - 1 < s.data.toList.length := by omega
  conv => lhs; rw [← List.take_append_drop (s.size - 1) s.data.toList]
  congr 1
  rw [List.drop_eq_getElem_cons h1, List.drop_eq_nil_of_le (by omega)]
  rfl
theorem ba_head {s : ByteArray} (h : 0 < s.size) : s.data.toList = s[0]'h :: (s.extract 1 s.size).data.toList := by
  have hd := ba_drop h
  rw [List.drop_zero] at hd
  rw [hd, ext_list, List.take_of_length_le (by rw [List.length_drop, ba_len]; omega)]
theorem ba_eq {s t : ByteArray} (h : s.data.toList = t.data.toList) : s = t := by
  cases s; cases t
  simp at h
  rw [h]
theorem ba_mk (s : ByteArray) : (⟨s.data.toList.toArray⟩ : ByteArray) = s := ba_eq (by simp)

/-- how many bytes follow the first one of a letter, the lowest second byte, the highest one -/
def moreF (z : Int) : Int × Int × Int :=
  if z < 128 then (0, 0, 0) else if 194 ≤ z ∧ z ≤ 223 then (1, 128, 191) else if z = 224 then (2, 160, 191) else if z = 237 then (2, 128, 159)
  else if 225 ≤ z ∧ z ≤ 239 then (2, 128, 191) else if z = 240 then (3, 144, 191) else if 241 ≤ z ∧ z ≤ 243 then (3, 128, 191) else if z = 244 then (3, 128, 143) else (-1, 0, 0)
theorem moreF_ok (z : Int) : (moreF z).1 = -1 ∨ ∃ n : Nat, (moreF z).1 = n ∧ n ≤ 3 := by
  unfold moreF
  repeat' split
  all_goals first | exact .inr ⟨0, rfl, by omega⟩ | exact .inr ⟨1, rfl, by omega⟩ | exact .inr ⟨2, rfl, by omega⟩ | exact .inr ⟨3, rfl, by omega⟩ | exact .inl rfl
/-- UTF-8, where k bytes of a letter are awaited, the next one from lo to hi -/
def letS : Nat → Int → Int → List UInt8 → Bool
  | 0, _, _, [] => true
  | _ + 1, _, _, [] => false
  | 0, _, _, c :: r => if (moreF c.toNat).1 < 0 then false else letS (moreF c.toNat).1.toNat (moreF c.toNat).2.1 (moreF c.toNat).2.2 r
  | k + 1, lo, hi, c :: r => (decide (128 ≤ (c.toNat : Int) ∧ (c.toNat : Int) ≤ 191) && decide (lo ≤ (c.toNat : Int) ∧ (c.toNat : Int) ≤ hi)) && letS k 128 191 r
/-- is the text UTF-8 -/
def letL (l : List UInt8) : Bool := letS 0 0 0 l
theorem letS_short : ∀ (k : Nat) (lo hi : Int) (l : List UInt8), l.length < k → letS k lo hi l = false
  | 0, _, _, _, h => absurd h (Nat.not_lt_zero _)
  | _ + 1, _, _, [], _ => by simp [letS]
  | k + 1, lo, hi, c :: r, h => by
    rw [letS, letS_short k 128 191 r (by simp at h; omega)]; simp
theorem letS_bad {c : UInt8} {r : List UInt8} {lo hi : Int} (h : (moreF c.toNat).1 < 0) : letS 0 lo hi (c :: r) = false := by rw [letS, if_pos h]
theorem letS_go {c : UInt8} {r : List UInt8} {lo hi : Int} {n : Nat} (h : (moreF c.toNat).1 = n) : letS 0 lo hi (c :: r) = letS n (moreF c.toNat).2.1 (moreF c.toNat).2.2 r := by
  rw [letS, if_neg (by omega), h]; rfl

/-- may a byte stand in a fair line (feeds: line feeds may) -/
def frB (feeds : Bool) (z : Int) : Bool := !(z == 127 || (decide (z < 32) && z != 9 && !(feeds && z == 10)))
def fairF (feeds : Bool) (l : List UInt8) : Bool := l.all (fun b => frB feeds b.toNat) && letL l
/-- a field's name -/
def nmB (z : Int) : Bool := !(decide (z < 33) || decide (126 < z) || z == 58)
def hdB (l : List UInt8) : Bool := match l with | [] => false | b :: _ => (b.toNat : Int) != 35 && (b.toNat : Int) != 45
def nameF (l : List UInt8) : Bool := l.all (fun b => nmB b.toNat) && hdB l
/-- the same but for A to Z -/
def lowZ (z : Int) : Int := if 65 ≤ z ∧ z ≤ 90 then z + 32 else z
def alkF : List UInt8 → List UInt8 → Bool
  | [], [] => true
  | x :: r, y :: t => (lowZ x.toNat == lowZ y.toNat) && alkF r t
  | _, _ => false
theorem alkF_len : ∀ {a b : List UInt8}, a.length ≠ b.length → alkF a b = false
  | [], [], h => absurd rfl h
  | [], y :: t, _ => rfl
  | x :: r, [], _ => rfl
  | x :: r, y :: t, h => by rw [alkF, alkF_len (fun e => h (by simp [e]))]; simp

abbrev Fld := List UInt8 × List UInt8
/-- the first field of a name that is alike -/
def getF : List Fld → List UInt8 → Option (List UInt8)
  | [], _ => none
  | f :: r, n => if alkF f.1 n then some f.2 else getF r n

/-- a value, cut at its line feeds -/
def pcs : List UInt8 → List UInt8 → List (List UInt8)
  | [], cur => [cur]
  | b :: r, cur => if b = 10 then cur :: pcs r [] else pcs r (cur ++ [b])
def pcF (l : List UInt8) : List (List UInt8) := pcs l []

end Go.Proofs.YtbeaoekbppdlmaaDoor
