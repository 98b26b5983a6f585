/-
  a step by value.
  KEEP: len below nil form rd mono rdz
-/
import Derived.Test.YtldolhllacbhjaaOpenZ
set_option linter.unusedSimpArgs false
set_option linter.unusedVariables false
namespace Go.Proofs.Ytldolhllacbhjaa
open Go.ChangeShapes Go.WideShapes Go.ChangeAt Go.RowKit
set_option maxRecDepth 100000 in
theorem step_open {H : Type} {enc : TypeId × Value → H} {W : World} {r : Reach} {b0 : Nat} {v : Value} {d : DataW H} {p : List MemPlace} (hv : Value.okWide Try.prog W r b0 38 v)
    (h : DataW.Trod enc Try.prog W 0 (fun _ => true) true 38 v d p) (hs : ∀ n ∈ d.weights Try.prog 38, n ≤ reachBytes) :
    ∃ b s z, v = .agg #[.bool b, s] ∧ Rd W s z ∧ z.length ≤ Rows.uptoBulk d := by
  obtain ⟨cs, rfl, hsz⟩ := okWide_struct Try.underlying38 hv
  obtain ⟨c0, c1, rfl⟩ := array2 (hsz.trans (by kernel_rfl))
  obtain ⟨fuel, hf⟩ := h
  have hf' : DataW.trod enc Try.prog W 0 (fun _ => true) true fuel 38 [c0, c1] = some (d, p) := by simpa [Value.cells] using hf
  obtain ⟨⟨b, z⟩, ⟨u, hu, hr⟩, hl⟩ := stp_of_trod fuel [c0, c1] (d, p) hf' hs
  injection hu with q1 q2
  injection q2 with q2 _
  subst q1; subst q2
  exact ⟨b, _, z, rfl, hr, by dsimp only at hl; omega⟩
end Go.Proofs.Ytldolhllacbhjaa
