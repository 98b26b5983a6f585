/-
  Relations, in plain words: names, gaps, words, operators, one relation of a text. No program here.
-/
import Derived.Test.YtmfcaoacklbkoaaDoorVsP
set_option linter.unusedSimpArgs false
set_option linter.unusedVariables false
namespace Go.Proofs.YtmfcaoacklbkoaaDoor
open Go

def gapZ (z : Int) : Bool := z == 32 || z == 9 || z == 10
def wrdZ (z : Int) : Bool := !gapZ z && z != 44 && z != 124 && z != 40 && z != 41
def sgnZ (z : Int) : Bool := z == 60 || z == 61 || z == 62
/-- the place behind the bytes of a kind that stand at a place -/
def runF (p : Int → Bool) (l : List UInt8) (k : Nat) : Nat := k + spn p (l.drop k)
theorem runF_ge (p : Int → Bool) (l : List UInt8) (k : Nat) : k ≤ runF p l k := Nat.le_add_right _ _
theorem runF_le (p : Int → Bool) (l : List UInt8) (k : Nat) (h : k ≤ l.length) : runF p l k ≤ l.length := by
  have := spn_le p (l.drop k)
  rw [List.length_drop] at this
  unfold runF; omega
theorem runF_end (p : Int → Bool) (l : List UInt8) (k : Nat) (h : l.length ≤ k) : runF p l k = k := by
  unfold runF; rw [List.drop_eq_nil_of_le h]; rfl
theorem runF_yes {p : Int → Bool} {s : ByteArray} {k : Nat} (h : k < s.size) (hp : p ((s[k]'h).toNat : Int) = true) : runF p s.data.toList k = runF p s.data.toList (k + 1) := by
  unfold runF; rw [drop20 h, spn_yes hp]; omega
theorem runF_no {p : Int → Bool} {s : ByteArray} {k : Nat} (h : k < s.size) (hp : p ((s[k]'h).toNat : Int) = false) : runF p s.data.toList k = k := by
  unfold runF; rw [drop20 h, spn_no hp]; omega
/-- the byte at a place; -1 at the end -/
def atB (s : ByteArray) (k : Nat) : Int := if h : k < s.size then ((s[k]'h).toNat : Int) else -1
theorem atB_in {s : ByteArray} {k : Nat} (h : k < s.size) : atB s k = ((s[k]'h).toNat : Int) := dif_pos h
theorem atB_out {s : ByteArray} {k : Nat} (h : ¬ k < s.size) : atB s k = -1 := dif_neg h

/-- a package's name -/
def pnZ (z : Int) : Bool := (decide (97 ≤ z) && decide (z ≤ 122)) || (decide (48 ≤ z) && decide (z ≤ 57))
def rnA : Nat → List UInt8 → Bool
  | _, [] => true
  | k, b :: r => (pnZ b.toNat || (k != 0 && ((b.toNat : Int) == 43 || (b.toNat : Int) == 45 || (b.toNat : Int) == 46))) && rnA (k + 1) r
def rnmF (l : List UInt8) : Bool := decide (2 ≤ l.length) && rnA 0 l

/-- how an operator is written; nothing of what is none -/
def sgF (op : Int) : ByteArray :=
  if op = 1 then ⟨#[60, 60]⟩ else if op = 2 then ⟨#[60, 61]⟩ else if op = 3 then ⟨#[61]⟩ else if op = 4 then ⟨#[62, 61]⟩ else if op = 5 then ⟨#[62, 62]⟩ else ⟨#[]⟩
/-- which operator a text is; 0: none -/
def opF (t : ByteArray) : Int :=
  if t = ⟨#[60, 60]⟩ then 1 else if t = ⟨#[60, 61]⟩ then 2 else if t = ⟨#[61]⟩ then 3 else if t = ⟨#[62, 61]⟩ then 4 else if t = ⟨#[62, 62]⟩ then 5 else 0

/-- is a relation well shaped -/
def relB (n : ByteArray) (op : Int) (v : ByteArray) : Bool :=
  rnmF n.data.toList && (if op = 0 then v.data.toList.isEmpty else !(sgF op).data.toList.isEmpty && okS v)

/-- what is read at a place: the name, the operator, the version; the error (0: none); the place -/
structure On1 where
  n : ByteArray
  o : Int
  v : ByteArray
  e : Int
  k : Nat
def noR (e : Int) (k : Nat) : On1 := ⟨⟨#[]⟩, 0, ⟨#[]⟩, e, k⟩
/-- from behind the version on -/
def onD (s n : ByteArray) (o : Int) (v : ByteArray) (g : Nat) : On1 :=
  if atB s g = 41 then ⟨n, o, v, 0, runF gapZ s.data.toList (g + 1)⟩ else noR 220 g
/-- from behind the operator on -/
def onC (s n : ByteArray) (o : Int) (d : Nat) : On1 :=
  let f := runF wrdZ s.data.toList d
  if f = d then noR 220 d
  else if okS (s.extract d f) = false then noR 200 d
  else onD s n o (s.extract d f) (runF gapZ s.data.toList f)
/-- from behind the bracket on -/
def onB (s n : ByteArray) (b : Nat) : On1 :=
  let c := runF sgnZ s.data.toList b
  if opF (s.extract b c) = 0 then noR 220 b
  else onC s n (opF (s.extract b c)) (runF gapZ s.data.toList c)
/-- from behind the name on -/
def onA (s n : ByteArray) (a : Nat) : On1 :=
  if atB s a = 40 then onB s n (runF gapZ s.data.toList (a + 1)) else ⟨n, 0, ⟨#[]⟩, 0, a⟩
def oneF (s : ByteArray) (k : Nat) : On1 :=
  let t := runF wrdZ s.data.toList k
  if t = k then noR 220 k
  else if rnmF (s.extract k t).data.toList = false then noR 230 k
  else onA s (s.extract k t) (runF gapZ s.data.toList t)

end Go.Proofs.YtmfcaoacklbkoaaDoor
