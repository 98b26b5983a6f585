/-
  unit, the document's answer: Why; and same.
  KEEP: set on app at below new trans refl start ap kept rd rds mono lt add none own nil put len pos setF setV putL putR other neV same_any
-/
import Derived.Test.YtkinilhapgagcaaDoorRUw
set_option linter.unusedSimpArgs false
set_option linter.unusedVariables false
namespace Go.Proofs.YtkinilhapgagcaaDoor
open Go Go.RowKit

theorem Pth.upt {css : List (List Int)} {L : List Int} {cs : List (Int × Nat)} {t : Nat} (h : Pth css L cs) (hL : Upt t L) (hc : ∀ c ∈ css, Upt t c) : Upt t (L ++ cs.map Prod.fst) := fun l hl => by
  rcases List.mem_append.1 hl with a | a
  · exact hL l a
  · obtain ⟨c, h1, h2⟩ := h.new.2.2 l a
    exact hc c h1 l h2
end Go.Proofs.YtkinilhapgagcaaDoor
