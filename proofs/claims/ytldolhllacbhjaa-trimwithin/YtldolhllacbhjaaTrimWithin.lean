/-
  TrimWithin, walked.
  KEEP: len below nil form rd mono one more grown lt size cell some none of ofNat add out step row get at drop rdz
-/
import Derived.Test.YtldolhllacbhjaaTmV
import Derived.Test.YtldolhllacbhjaaOpenZ
set_option linter.unusedSimpArgs false
set_option linter.unusedVariables false
namespace Go.Proofs.Ytldolhllacbhjaa
theorem OwnS.rdz2 {B : Nat} {W w : World} {s v : Value} {l : List Stp} (h : OwnS B W s l) (hr : RdZ w v l) : RdZ W s l := h.rdz hr.len (rdz_each hr)
namespace trimWithin
open Go Go.RowKit

set_option maxHeartbeats 1600000 in
set_option maxRecDepth 100000 in
theorem walk (va : Value) (a : List Stp) (vb : Value) (b : List Stp) (w : World) (ha : RdZ w va a) (hb : RdZ w vb b) :
    Calls Try.prog 4 #[va, vb] w fun e w' => e = .returned (.bool true) ∧ Below w.heap.size w w' := by
  have C1 : Hid (Calls Try.prog 12 #[va] w fun e w' => ∃ u, e = .returned u ∧ RdZ w' u a ∧ Below w.heap.size w w') := (copySteps_any va a w ha).mono fun e w' ⟨u, h1, h2, h3⟩ => ⟨u, h1, h2.rdz2 ha, h3⟩
  have C2 : Hid (∀ W, Below w.heap.size w W → Calls Try.prog 12 #[vb] W fun e w' => ∃ u, e = .returned u ∧ RdZ w' u b ∧ Below W.heap.size W w') := fun W h => (copySteps_any vb b W (hb.below h)).mono fun e w' ⟨u, h1, h2, h3⟩ => ⟨u, h1, h2.rdz2 hb, h3⟩
  have C3 : Hid (∀ W, Below w.heap.size w W → Calls Try.prog 13 #[va, vb] W fun e w' => e = .returned (.bool (a.isSublist b)) ∧ Below W.heap.size W w') := fun W h => rPart_any a va vb b W (ha.below h) (hb.below h)
  have C4 : Hid (∀ W u v, RdZ W u a → RdZ W v b → Calls Try.prog 11 #[u, v] W fun e w' => e = .returned (.bool (a.isSublist b)) ∧ Below W.heap.size W w') := fun W u v h g => within_any u v a b W h g
  clear ha hb
  generalize a.isSublist b = r at *
  have hr : (r == r) = true := beq_self_eq_true r
  go_enter Try.func4, Try.ntmps4
  go_wp2_with fail
  refine C1.out.mono ?_
  rintro e w1 ⟨u1, rfl, R1, b1⟩
  have H1 : Hid (RdZ w1 u1 a ∧ Below w.heap.size w w1) := ⟨R1, b1⟩
  clear R1 b1
  go_wp2_with fail
  refine (C2.out w1 H1.out.2).mono ?_
  rintro e w2 ⟨u2, rfl, R2, b2⟩
  have H2 : Hid (RdZ w2 u1 a ∧ RdZ w2 u2 b ∧ Below w.heap.size w w2) := ⟨H1.out.1.below b2, R2, Below.step H1.out.2 b2⟩
  clear R2 b2
  go_wp2_with fail
  refine (C4.out w2 u1 u2 H2.out.1 H2.out.2.1).mono ?_
  rintro e w3 ⟨rfl, b3⟩
  have H3 : Hid (Below w.heap.size w w3) := Below.step H2.out.2.2 b3
  clear b3
  go_wp2_with fail
  refine (C3.out w3 H3.out).mono ?_
  rintro e w4 ⟨rfl, b4⟩
  go_wp2_with fail
  go_ret
  exact ⟨rfl, Below.step H3.out b4⟩

end trimWithin
end Go.Proofs.Ytldolhllacbhjaa
