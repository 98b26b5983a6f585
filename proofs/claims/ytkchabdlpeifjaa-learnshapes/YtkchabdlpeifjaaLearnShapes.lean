/-
  LearnShapes, walked.
  KEEP: len below nil form rd mono one more grown lt size cell some none of ofNat add out step row get at mk new made look put del kept drew alloc has same other map rde take lit lev lstB pre ws cells bnd on start app set box bel rz
-/
import Derived.Test.YtkchabdlpeifjaaLnE
import Derived.Test.YtkchabdlpeifjaaLnC
set_option linter.unusedSimpArgs false
set_option linter.unusedVariables false
namespace Go.Proofs.Ytkchabdlpeifjaa.learnShapes
open Go Go.RowKit
set_option maxHeartbeats 3200000 in
theorem walk (v : Value) (t : List Ent) (w : World) (hr : RdE w v t) :
    Calls Try.prog 4 #[v] w fun e w' => e = .returned (.bool true) ∧ Below w.heap.size w w' := by
  have hl := hr.len
  have h8 := rde_each hr
  have HC : Hid (Calls Try.prog 11 #[v] w fun e w' => ∃ u, e = .returned u ∧ RdE w' u t ∧ Below w.heap.size w w') := (copyEntries_any v t w hr).mono fun e w' ⟨u, h1, h2, h3⟩ => ⟨u, h1, h2.rde hl h8, h3⟩
  have HF : Hid (∀ W u, RdE W u t → Calls Try.prog 10 #[u] W fun e w' => e = .returned (.bool (frmE t)) ∧ Below W.heap.size W w') := fun W u h => l15Formed_any u t W h
  have HN : Hid (∀ W, Calls Try.prog 10 #[.slice none 0 0] W fun e w' => e = .returned (.bool true) ∧ Below W.heap.size W w') := fun W => l15Formed_any _ [] W (RdE.nil W)
  have HG : Hid (∀ W, Below w.heap.size w W → Calls Try.prog 12 #[v] W fun e w' => e = .returned (.bool (frmE t)) ∧ Below W.heap.size W w') := fun W h => (r15Formed_any v t W (hr.below h)).mono fun e w' ⟨h1, m, h2⟩ => ⟨h1, by rw [h2]; exact below_drewN _ _⟩
  clear hr h8
  generalize frmE t = fr at *
  have hfr : (fr == fr) = true := by simp
  go_enter Try.func4, Try.ntmps4
  go_wp2_with (first
    | (go_at_call 11; refine HC.out.mono ?_; rintro e w1 ⟨u, rfl, hu, b1⟩; have H1 : Hid (RdE w1 u t ∧ Below w.heap.size w w1) := ⟨hu, b1⟩; clear hu b1)
    | (go_at_call 12; refine (HG.out _ H2.out).mono ?_; rintro e w3 ⟨rfl, b3⟩; have H3 : Hid (Below w.heap.size w w3) := Below.step H2.out b3; clear b3)
    | (go_at_call 10; first | (have h3 := H3.out; clear h3; refine (HN.out _).mono ?_; rintro e w4 ⟨rfl, b4⟩; have H4 : Hid (Below w.heap.size w w4) := Below.step H3.out b4; clear b4) | (refine (HF.out _ _ H1.out.1).mono ?_; rintro e w2 ⟨rfl, b2⟩; have H2 : Hid (Below w.heap.size w w2) := Below.step H1.out.2 b2; clear b2)))
  go_ret
  exact ⟨rfl, H4.out⟩
end Go.Proofs.Ytkchabdlpeifjaa.learnShapes
