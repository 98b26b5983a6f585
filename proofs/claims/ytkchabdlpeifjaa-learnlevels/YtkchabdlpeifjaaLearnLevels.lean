/-
  LearnLevels, walked.
  KEEP: len below nil form rd mono one more grown lt size cell some none of ofNat add out step row get at mk new made look put del kept drew alloc has same other map rde take lit lev lstB pre ws cells bnd on start app set box bel rz tidy ms
-/
import Derived.Test.YtkchabdlpeifjaaLnH
import Derived.Test.YtkchabdlpeifjaaLnC
set_option linter.unusedSimpArgs false
set_option linter.unusedVariables false
namespace Go.Proofs.Ytkchabdlpeifjaa.learnLevels
open Go Go.RowKit
set_option maxHeartbeats 3200000 in
theorem walk (v : Value) (t : List Ent) (vc : Value) (zs : List Int) (w : World) (hr : RdE w v t) (hz : Rd w vc zs) :
    Calls Try.prog 7 #[v, vc] w fun e w' => e = .returned (.bool true) ∧ Below w.heap.size w w' := by
  have hl := hr.len
  have h8 := rde_each hr
  have hlz := hz.len
  have HC : Hid (Calls Try.prog 11 #[v] w fun e w' => ∃ u, e = .returned u ∧ RdE w' u t ∧ Below w.heap.size w w') := (copyEntries_any v t w hr).mono fun e w' ⟨u, h1, h2, h3⟩ => ⟨u, h1, h2.rde hl h8, h3⟩
  have HI : Hid (∀ W, Below w.heap.size w W → Calls Try.prog 14 #[vc] W fun e w' => ∃ u, e = .returned u ∧ Rd w' u zs ∧ Below W.heap.size W w') := fun W h => (copyInts_any vc zs W (hz.below h)).mono fun e w' ⟨u, h1, h2, h3⟩ => ⟨u, h1, h2.rd hlz, h3⟩
  have HF : Hid (∀ W u uc, RdE W u t → Rd W uc zs → Calls Try.prog 19 #[u, uc] W fun e w' => e = .returned (.tuple #[.int .i64 (lvsI t zs).1, .int .i64 (lvsI t zs).2]) ∧ Below W.heap.size W w') := fun W u uc h1 h2 => levels_any u uc t zs W h1 h2
  have HG : Hid (∀ W, Below w.heap.size w W → Calls Try.prog 20 #[v, vc] W fun e w' => e = .returned (.tuple #[.int .i64 (lvsI t zs).1, .int .i64 (lvsI t zs).2]) ∧ Below W.heap.size W w') := fun W h => rLevels_any v vc t zs W (hr.below h) (hz.below h)
  clear hr hz h8
  generalize lvsI t zs = q at *
  obtain ⟨q1, q2⟩ := q
  have h1 : (q1 == q1) = true := by simp
  have h2 : (q2 == q2) = true := by simp
  go_enter Try.func7, Try.ntmps7
  go_wp2_with (first
    | (go_at_call 11; refine HC.out.mono ?_; rintro e w1 ⟨u, rfl, hu, b1⟩; have H1 : Hid (RdE w1 u t ∧ Below w.heap.size w w1) := ⟨hu, b1⟩; clear hu b1)
    | (go_at_call 14; refine (HI.out _ H1.out.2).mono ?_; rintro e w2 ⟨uc, rfl, hu, b1⟩; have H2 : Hid (RdE w2 u t ∧ Rd w2 uc zs ∧ Below w.heap.size w w2) := ⟨H1.out.1.below b1, hu, Below.step H1.out.2 b1⟩; clear hu b1)
    | (go_at_call 19; refine (HF.out _ _ _ H2.out.1 H2.out.2.1).mono ?_; rintro e w3 ⟨rfl, b3⟩; have H3 : Hid (Below w.heap.size w w3) := Below.step H2.out.2.2 b3; clear b3)
    | (go_at_call 20; refine (HG.out _ H3.out).mono ?_; rintro e w4 ⟨rfl, b4⟩; have H4 : Hid (Below w.heap.size w w4) := Below.step H3.out b4; clear b4))
  go_ret
  exact ⟨rfl, H4.out⟩
end Go.Proofs.Ytkchabdlpeifjaa.learnLevels
