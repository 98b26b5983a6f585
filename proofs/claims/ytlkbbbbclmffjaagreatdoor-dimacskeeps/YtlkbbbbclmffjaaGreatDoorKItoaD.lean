/-
  strconv.Itoa, and texts put behind one another.
  KEEP: below mono nil form app grown rdz
-/
import Derived.Test.YtlkbbbbclmffjaaGreatDoorKFullRow
import Derived.Test.YtlkbbbbclmffjaaGreatDoorJText
import Derived.Test.YtlkbbbbclmffjaaGreatDoorJAppK
import Derived.Lib.SmallJoins
set_option linter.unusedSimpArgs false
set_option linter.unusedVariables false
namespace Go.Proofs.YtlkbbbbclmffjaaGreatDoor
open Go Go.RowKit Go.Lib Go.Sort

theorem itoa9_any (z : Int) (h0 : -9223372036854775808 ≤ z) (h1 : z ≤ 9223372036854775807) (w : World) (htab : TensY w) :
    Calls Tryz.prog 22 #[.int .i64 z] w fun e w' => e = .returned (.string ⟨(Lib.itoa z).toArray⟩) ∧ Below w.heap.size w w' :=
  (Tryz.strconv_Itoa z h0 h1 w htab).mono fun e w' h => by
    obtain ⟨rfl, k, os, rfl⟩ := h
    exact ⟨rfl, Lib.below_grow w.heap.size w (Nat.le_refl _) k os⟩
/-- two texts, one behind the other -/
theorem cat9_run (x y z : List UInt8) (hz : z = x ++ y) (h : x.length + y.length ≤ 9223372036854775807) (w : World) : (Op.stringOp .add ⟨x.toArray⟩ ⟨y.toArray⟩).run Tryz.prog w = .ok (.string ⟨z.toArray⟩) w := by
  subst hz
  rw [run_string_add_sum w _ _ (by simp [ByteArray.size]; omega), ByteArray.mk_append_mk]

end Go.Proofs.YtlkbbbbclmffjaaGreatDoor
