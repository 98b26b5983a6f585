/-
  Rows of stanzas in memory: a slice reads the stanzas l. The document's Formed, walked.
  KEEP: len below nil form rd mono on app start at new trans refl kept own row out grown rdz set one more lt size cell some none letL tail next step go add put del get look no yes e c f b k n m box take each
-/
import Derived.Test.YtblkhkfjaggnfaaCtV
import Derived.Deep.RegionHeld
set_option linter.unusedSimpArgs false
set_option linter.unusedVariables false
namespace Go.Proofs.Ytblkhkfjaggnfaa
open Go Go.RowKit

abbrev Stz := Int × List Fld
/-- the slice reads the stanzas l -/
def RdSt (w : World) (v : Value) (l : List Stz) : Prop :=
  l.length * 32 ≤ 140737488351232 ∧ ∃ a c, v = .slice a l.length c ∧ l.length ≤ c ∧ c ≤ maxLen ∧
    (l ≠ [] → ∃ b off, a = some ⟨b, off, none⟩ ∧ b < w.heap.size ∧ ∀ j, j < l.length → ∃ u, w.cell? ⟨b, off + j * 2, none⟩ = some (.int .i64 (l.getD j (0, [])).1) ∧ w.cell? ⟨b, off + j * 2 + 1, none⟩ = some u ∧ RdG w u (l.getD j (0, [])).2)
theorem RdSt.len {w : World} {v : Value} {l : List Stz} (h : RdSt w v l) : l.length * 32 ≤ 140737488351232 := h.1
theorem RdSt.below {w w' : World} {v : Value} {l : List Stz} (h : RdSt w v l) (hb : Below w.heap.size w w') : RdSt w' v l := by
  obtain ⟨h1, a, c, rfl, hc, hm, h2⟩ := h
  refine ⟨h1, a, c, rfl, hc, hm, fun hne => ?_⟩
  obtain ⟨b, off, rfl, hlt, hcell⟩ := h2 hne
  refine ⟨b, off, rfl, Nat.lt_of_lt_of_le hlt hb.size, fun j hj => ?_⟩
  obtain ⟨u, hd, hu, hr⟩ := hcell j hj
  exact ⟨u, (hb.cell (p := ⟨b, off + j * 2, none⟩) hlt).trans hd, (hb.cell (p := ⟨b, off + j * 2 + 1, none⟩) hlt).trans hu, hr.below hb⟩
theorem RdSt.nil (w : World) : RdSt w (.slice none 0 0) [] := ⟨by simp, none, 0, rfl, Nat.le_refl _, Nat.zero_le _, fun h => absurd rfl h⟩
theorem RdSt.form {w : World} {v : Value} {l : List Stz} (h : RdSt w v l) : ∃ a c, v = .slice a l.length c ∧ l.length ≤ c ∧ c ≤ maxLen ∧ ∀ k, k < l.length → ∃ b off u, a = some ⟨b, off, none⟩ ∧ b < w.heap.size ∧ w.cell? ⟨b, off + k * 2, none⟩ = some (.int .i64 (l.getD k (0, [])).1) ∧ w.cell? ⟨b, off + k * 2 + 1, none⟩ = some u ∧ RdG w u (l.getD k (0, [])).2 := by
  obtain ⟨h1, a, c, rfl, hc, hm, h2⟩ := h
  refine ⟨a, c, rfl, hc, hm, fun k hk => ?_⟩
  obtain ⟨b, off, e, hb, hcell⟩ := h2 (by intro e; subst e; simp at hk)
  obtain ⟨u, hd, hu, hr⟩ := hcell k hk
  exact ⟨b, off, u, e, hb, hd, hu, hr⟩

theorem RdSt.belowB {B : Nat} {w w' : World} {v : Value} {l : List Stz} (h : RdSt w v l) (hb : Below B w w') (hB : w.heap.size ≤ B) : RdSt w' v l := h.below (hb.mono hB)

/-- fields of which none is alike to one ahead of it, and each is well formed -/
def fmG (l : List UInt8) (f : Fld) : Bool := nameF f.1 && valF f.2
def twG (fs : List Fld) (j : Nat) : Bool := (getF (fs.take j) (fs.getD j ([], [])).1).isSome
def fldOk (fs : List Fld) (j : Nat) : Bool := !(twG fs j || !nameF (fs.getD j ([], [])).1 || !valF (fs.getD j ([], [])).2)
/-- the fields from number j on, r of them -/
def fldsOk (fs : List Fld) : Nat → Nat → Bool
  | _, 0 => true
  | j, r + 1 => fldOk fs j && fldsOk fs (j + 1) r
def stzOk (fs : List Fld) : Bool := !fs.isEmpty && fldsOk fs 0 fs.length
def fmdL (l : List Stz) : Bool := l.all (fun s => stzOk s.2)
theorem stz_drop {l : List Stz} {k : Nat} (h : k < l.length) : l.drop k = l.getD k (0, []) :: l.drop (k + 1) := by
  rw [List.drop_eq_getElem_cons h]; simp [List.getD_eq_getElem?_getD, h]
def tw2 (o : Option (List UInt8)) : List UInt8 := o.getD []
theorem sizeL (x : List UInt8) : (⟨x.toArray⟩ : ByteArray).size = x.length := by simp [ByteArray.size]
theorem gtV_form (o : Option (List UInt8)) : gtV o = .tuple #[.string ⟨(tw2 o).toArray⟩, .bool o.isSome] := by cases o <;> rfl

end Go.Proofs.Ytblkhkfjaggnfaa
