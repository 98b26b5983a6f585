/-
  depotref03.Write, walked.
  KEEP: grown below mono set on app nil text own rd rds new kept form lt trans refl rdb tens rdz len cut push whole start row
-/
import Derived.Test.YtpebpnbikdahkaaDoorFullRow
import Derived.Test.YtpebpnbikdahkaaDoorShape
import Derived.Test.YtpebpnbikdahkaaDoorGrow
import Derived.Handy
import Derived.Deep.RegionHeld
import Derived.Sort.AtCall
import Derived.Deep.RegionWith
import Derived.Deep.CutRange
import Derived.Lib.SmallJoins
set_option linter.unusedSimpArgs false
set_option linter.unusedVariables false
namespace Go.Proofs.YtpebpnbikdahkaaDoor
open Go Go.RowKit Go.Lib Go.Sort

theorem itoa_any (z : Int) (h0 : -9223372036854775808 ≤ z) (h1 : z ≤ 9223372036854775807) (w : World) (htab : TensY w) :
    Calls Tryd.prog 9 #[.int .i64 z] w fun e w' => e = .returned (.string ⟨(Lib.itoa z).toArray⟩) ∧ Below w.heap.size w w' :=
  (Tryd.strconv_Itoa z h0 h1 w htab).mono fun e w' h => by
    obtain ⟨rfl, k, os, rfl⟩ := h
    exact ⟨rfl, Lib.below_grow w.heap.size w (Nat.le_refl _) k os⟩

/-- two texts, one behind the other -/
theorem cat_run (x y z : List UInt8) (hz : z = x ++ y) (h : x.length + y.length ≤ 9223372036854775807) (w : World) : (Op.stringOp .add ⟨x.toArray⟩ ⟨y.toArray⟩).run Tryd.prog w = .ok (.string ⟨z.toArray⟩) w := by
  subst hz
  rw [run_string_add_sum w _ _ (by simp [ByteArray.size]; omega), ByteArray.mk_append_mk]

end Go.Proofs.YtpebpnbikdahkaaDoor
