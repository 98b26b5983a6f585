/-
  A region that draws its order and whose callees make new memory alone: one walk of the text's order serves, in a round or out of it.
  KEEP: cell be wd
-/
import Derived.Test.YtlkbbbbclmffjaaGreatDoorKQuietR
import Derived.Test.YtlkbbbbclmffjaaGreatDoorJGrow
import Derived.Handy
set_option linter.unusedSimpArgs false
set_option linter.unusedVariables false
namespace Go.Proofs.YtlkbbbbclmffjaaGreatDoor
open Go Go.RowKit

/-- a world that has all of W's blocks as they are -/
structure Xt (W : World) where
  wd : World
  be : Below W.heap.size W wd
def Wx (W : World) (x : Xt W) : World := x.wd
theorem xt_ne (W : World) : Nonempty (Xt W) := ⟨⟨W, Below.refl _ _⟩⟩
theorem Wx.cell {W : World} {p : Addr} {v : Value} (h : W.cell? p = some v) (x : Xt W) : (Wx W x).cell? p = some v := (x.be.cell (p := p) (World.block_lt_of_cell? W p h)).trans h
theorem region_quietX {F : Fence} {n : Nat} {P : Program} {id : Nat} {Q : Exit → Act → World → Prop} {a : Act} {w : World} {l : List Oper} (hnd : noDeferB l.toArray = true) (hm : P.follows .mixedOrders = true) (hB : Region.lexB .any l.toArray = true)
    (h : wpQuietIn F n P l.toArray (fun w' => ∃ x, w' = Wx w x) (fun a' => ∀ w', (∃ x, w' = Wx w x) → Q .normal a' w') l a) : (Code.region id l.toArray true).wpIn F n P Q a w := by
  have hB' := hB
  simp only [Region.lexB, Bool.and_eq_true] at hB'
  refine wpIn_region_any hm (quiet_any (C := fun w' => ∃ x, w' = Wx w x) (Q := fun a' => ∀ w', (∃ x, w' = Wx w x) → Q .normal a' w') hnd (fun _ w' hw' h => h w' hw') _ _ _ _ ⟨⟨w.drew, (Below.refl _ _).drew⟩, rfl⟩ ?_)
  have := wpAnyQIn_lex (F := F) (n := n) (P := P) (C := fun w' => ∃ x, w' = Wx w x) (Q := fun a' => ∀ w', (∃ x, w' = Wx w x) → Q .normal a' w') (md := .any) hB'.1 l 0 (Array.replicate l.toArray.size false) a (by simp) (by simpa using hB'.2) h
  simpa using this
end Go.Proofs.YtlkbbbbclmffjaaGreatDoor
