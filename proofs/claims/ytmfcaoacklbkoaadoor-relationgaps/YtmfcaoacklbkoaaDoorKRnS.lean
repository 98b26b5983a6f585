/-
  Four texts, read (pure).
  KEEP: off c0 c1 c2 c3 c4 s0 s1 s2 s3 s4 newS rds lt f t q x len below nil form rd mono on
-/
import Derived.Test.YtmfcaoacklbkoaaDoorJRlF
import Derived.KernelRfl
set_option linter.unusedSimpArgs false
set_option linter.unusedVariables false
namespace Go.Proofs.YtmfcaoacklbkoaaDoor
open Go Go.RowKit

theorem num_a : lstF ⟨#[97, 97, 32, 98, 98]⟩ true = .error (220, 3) := by kernel_rfl
theorem num_b : lstF ⟨#[65]⟩ true = .error (230, 0) := by kernel_rfl
theorem num_c : lstF ⟨#[97, 97, 32, 40, 61, 32, 120, 41]⟩ false = .error (200, 6) := by kernel_rfl
theorem num_d : lisT 0 ⟨#[]⟩ [[]] = none := rfl
theorem num_e : lstF ⟨#[97, 97]⟩ false = .ok [[(⟨#[97, 97]⟩, 0, ⟨#[]⟩)]] := by kernel_rfl
theorem num_f : lstF ⟨#[97, 97]⟩ true = .ok [[(⟨#[97, 97]⟩, 0, ⟨#[]⟩)]] := by kernel_rfl

end Go.Proofs.YtmfcaoacklbkoaaDoor
