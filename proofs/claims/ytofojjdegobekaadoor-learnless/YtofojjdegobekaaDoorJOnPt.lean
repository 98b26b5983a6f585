/-
  joined: OnPt OnL OnB
-/
import Derived.Test.YtofojjdegobekaaDoorJUnR
import Derived.WalkLawsBesides
set_option linter.unusedSimpArgs false
set_option linter.unusedVariables false
namespace Go.Proofs.YtofojjdegobekaaDoor
open Go Go.RowKit

theorem Tryd.infoI64o : (Tryd.prog.info? 3).map (fun i => (i.zero, i.size, i.bytes)) = some (some (.int .i64 0), 1, 8) := by kernel_rfl
theorem Tryd.infoI32o : (Tryd.prog.info? 21).map (fun i => (i.zero, i.size, i.bytes)) = some (some (.int .i32 0), 1, 4) := by kernel_rfl
section
variable {B : Nat} {W : World} {b : Nat} {s : Sy} {n N : Nat} {A : List Bool} {E : List Int} {F : List Nat} {P : List (Nat × Nat)} {M : List Int} {R : List Nat}
end
end Go.Proofs.YtofojjdegobekaaDoor
set_option linter.unusedSimpArgs false
set_option linter.unusedVariables false
namespace Go.Proofs.YtofojjdegobekaaDoor
open Go Go.RowKit

end Go.Proofs.YtofojjdegobekaaDoor
set_option linter.unusedSimpArgs false
set_option linter.unusedVariables false
namespace Go.Proofs.YtofojjdegobekaaDoor
open Go Go.RowKit

/-- a slice cut to nothing -/
def cut0 : Value → Value
  | .slice a _ c => .slice a 0 c
  | v => v
theorem row_cut {W : World} {B e sz n : Nat} {v : Value} {xs : List Value} (h : W.ownsRow B e sz v n xs) : W.ownsRow B e sz (cut0 v) 0 [] ∧ (cut0 v).ownBlock = v.ownBlock := by
  have h0 := h
  rcases h.2 with ⟨rfl, _⟩ | ⟨g, cap, cur, rfl, _⟩
  · exact ⟨World.ownsRow_nil _ _ _ _, rfl⟩
  · have := own_cut h0 (m := 0) (Nat.zero_le _)
    rw [Nat.zero_mul, List.take_zero] at this
    exact ⟨this, rfl⟩
theorem grown_refl (W : World) (o : Option Nat) : W.grownBy W o := ⟨rfl, rfl, rfl, Nat.le_refl _, fun _ _ _ => rfl⟩
section
variable {B : Nat} {W W' : World} {b : Nat} {s : Sy} {n N : Nat} {A : List Bool} {E : List Int} {F : List Nat} {P : List (Nat × Nat)} {M : List Int} {R : List Nat}
end
theorem lefts_set_eq {X : List (List Int)} {L L' : List Int} (h : ∀ x, x ∈ L ↔ x ∈ L') : lefts X L = lefts X L' := by
  unfold lefts
  apply List.map_congr_left
  intro c _
  rw [cnt_congr (fun _ => Iff.rfl) fun x _ => h (-x)]
theorem inLs_set_eq {n : Nat} {L L' : List Int} (h : ∀ x, x ∈ L ↔ x ∈ L') : inLs n L = inLs n L' := by
  unfold inLs
  apply List.map_congr_left
  intro i _
  rw [Bool.eq_iff_iff, decide_eq_true_eq, decide_eq_true_eq]
  exact h _
end Go.Proofs.YtofojjdegobekaaDoor
