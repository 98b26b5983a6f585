/-
  version.Legal, version.Cut, walked.
  KEEP: set below kept
-/
import Derived.Test.YtmfcaoacklbkoaaDoorVsQ
set_option linter.unusedSimpArgs false
set_option linter.unusedVariables false
namespace Go.Proofs.YtmfcaoacklbkoaaDoor
open Go Go.RowKit

theorem rdV_form (s : ByteArray) : ∃ a b c : ByteArray, rdV s = .agg #[.string a, .string b, .string c] ∧ (okS s = true → a = epS s ∧ b = upS (taS s) ∧ c = reS (taS s)) := by
  unfold rdV
  cases h : okS s
  · exact ⟨_, _, _, rfl, fun e => by cases e⟩
  · exact ⟨_, _, _, rfl, fun _ => ⟨rfl, rfl, rfl⟩⟩

set_option maxHeartbeats 1600000 in
theorem legal20_any (s : ByteArray) (w : World) (hs : s.size ≤ 281474976710656) :
    Calls Tryd.prog 38 #[.string s] w fun e w' => e = .returned (.bool (okS s)) ∧ Below w.heap.size w w' := by
  obtain ⟨a, b, c, hr, hv⟩ := rdV_form s
  have HC := read20_any s w hs
  rw [hr] at HC
  have HR : Hid (Calls Tryd.prog 51 #[.string s] w fun e w' => e = .returned (.tuple #[.agg #[.string a, .string b, .string c], .bool (okS s)]) ∧ Below w.heap.size w w') := HC
  clear HC hr hv
  generalize okS s = o at *
  go_enter Tryd.func38, Tryd.ntmps38
  go_wp2_with fail
  refine HR.out.mono ?_
  rintro e w1 ⟨rfl, bel⟩
  have HB : Hid (Below w.heap.size w (w1.alloc (.cells #[.string a, .string b, .string c] 95))) := Below.alloc bel bel.size _
  clear bel
  go_wp2
  all_goals
    go_ret
    exact ⟨rfl, HB.out⟩
/-- what Cut answers -/
def cutV (s : ByteArray) : Value := if okS s then .tuple #[.string (epS s), .string (upS (taS s)), .string (reS (taS s)), .int .i64 0] else .tuple #[.string ⟨#[]⟩, .string ⟨#[]⟩, .string ⟨#[]⟩, .int .i64 200]
theorem clone20_any (s : ByteArray) (w : World) (hs : s.size ≤ 281474976710656) :
    Calls Tryd.prog 54 #[.string s] w fun e w' => e = .returned (.string s) ∧ Below w.heap.size w w' := by
  have HC : Hid (Calls Tryd.prog 65 #[.string s] w fun e w' => e = .returned (.string s) ∧ Below w.heap.size w w') := Tryd.stringslite_Clone s w hs
  go_enter Tryd.func54, Tryd.ntmps54
  go_wp2_with fail
  refine HC.out.mono ?_
  rintro e w1 ⟨rfl, bel⟩
  have HB : Hid (Below w.heap.size w w1) := bel
  go_wp2
  go_ret
  exact ⟨rfl, HB.out⟩
end Go.Proofs.YtmfcaoacklbkoaaDoor
