/-
  The document's Legal, Cut, walked (walks/genvsf.py writes it).
  KEEP: set below kept
-/
import Derived.Test.YtmfcaoacklbkoaaDoorVsE
set_option linter.unusedSimpArgs false
set_option linter.unusedVariables false
namespace Go.Proofs.YtmfcaoacklbkoaaDoor
open Go Go.RowKit

theorem h0_at (U : ByteArray) (h : 0 < U.size) : h0B U = digR ((U[0]'h).toNat : Int) := by
  have hd := drop20 h
  rw [List.drop_zero] at hd
  unfold h0B
  rw [hd]
theorem emp20 (s : ByteArray) : s.data.toList.isEmpty = s.toList.isEmpty := by rw [ByteArray.toList_eq]
theorem pos20 {s : ByteArray} (h : s.toList.isEmpty = false) : 0 < s.size := by
  rw [← emp20] at h
  have h1 := size20 s
  cases hl : s.data.toList with
  | nil => rw [hl] at h; cases h
  | cons b r => rw [hl] at h1; simp at h1; omega
theorem emp_nil {s : ByteArray} (h : s.toList.isEmpty = true) : s.toList = [] := by simpa using h
theorem emp_cons {s : ByteArray} (h : s.toList.isEmpty = false) : ¬ s.toList = [] := by simpa using h

end Go.Proofs.YtmfcaoacklbkoaaDoor
