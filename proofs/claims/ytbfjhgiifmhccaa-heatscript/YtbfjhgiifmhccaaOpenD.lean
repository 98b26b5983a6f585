/-
  From a row's reading of floats and ints by value to what it reads.
-/
import Derived.Test.YtbfjhgiifmhccaaHtO
import Derived.ProofKit
import Derived.OpenShut
import Derived.SizedLaws
import Derived.ChangeArms
set_option linter.unusedVariables false
set_option linter.unusedSimpArgs false
namespace Go.Proofs.Ytbfjhgiifmhccaa
open Go.RowKit Go.ChangeShapes Go.WideShapes Go.ChangeAt

theorem wf_i14 {n : Int} (h : (Lit.int .i64 n).wf = true) : -9223372036854775808 ≤ n ∧ n ≤ 9223372036854775807 := by
  simp [Lit.wf, IntKind.min, IntKind.max, IntKind.bits, IntKind.signed] at h
  omega
theorem int_of_trod14 {H : Type} {enc : TypeId × Value → H} {W : World} {fuel : Nat} {c : Value} {y : DataW H × List MemPlace}
    (h : DataW.trod enc Try.prog W 0 (fun _ => true) true fuel 3 [c] = some y) : ∃ n, c = .int .i64 n ∧ -9223372036854775808 ≤ n ∧ n ≤ 9223372036854775807 := by
  obtain ⟨n, hn, hy, hwf⟩ := DataW.trod_int Try.underlying3 h
  simp at hn
  exact ⟨n, hn, wf_i14 hwf⟩
theorem float_of_trod14 {H : Type} {enc : TypeId × Value → H} {W : World} {fuel : Nat} {c : Value} {y : DataW H × List MemPlace}
    (h : DataW.trod enc Try.prog W 0 (fun _ => true) true fuel 23 [c] = some y) : ∃ n, c = .float .f64 n ∧ n < 18446744073709551616 := by
  cases fuel with
  | zero => simp [DataW.trod] at h
  | succ m =>
    simp only [DataW.trod, Try.underlying23] at h
    cases c <;> simp at h
    rename_i k b
    refine ⟨b, by rw [h.1.1], ?_⟩
    have hw := h.1.2
    have hk := h.1.1
    subst hk
    simpa [Lit.wf] using hw
set_option maxRecDepth 100000 in
theorem float_open {H : Type} {enc : TypeId × Value → H} {W : World} {r : Reach} {b0 : Nat} {v : Value} {d : DataW H} {p : List MemPlace} (hv : Value.okWide Try.prog W r b0 23 v)
    (h : DataW.Trod enc Try.prog W 0 (fun _ => true) true 23 v d p) : ∃ n, v = .float .f64 n ∧ n < 18446744073709551616 := by
  obtain ⟨fuel, hf⟩ := h
  have hc : v.cells = #[v] := by
    simp only [Value.okWide, Try.underlying23, Cell.okWide, Cell.ok] at hv
    cases v with
    | agg a => exact absurd hv (by simp)
    | _ => rfl
  rw [hc] at hf
  exact float_of_trod14 (by simpa using hf)
end Go.Proofs.Ytbfjhgiifmhccaa
