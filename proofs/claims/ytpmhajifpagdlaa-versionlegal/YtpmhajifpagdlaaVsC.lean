/-
  version.Legal, version.Cut, walked.
  KEEP: set below kept
-/
import Derived.Test.YtpmhajifpagdlaaVsQ
set_option linter.unusedSimpArgs false
set_option linter.unusedVariables false
namespace Go.Proofs.Ytpmhajifpagdlaa
open Go Go.RowKit

theorem rdV_form (s : ByteArray) : ∃ a b c : ByteArray, rdV s = .agg #[.string a, .string b, .string c] ∧ (okS s = true → a = epS s ∧ b = upS (taS s) ∧ c = reS (taS s)) := by
  unfold rdV
  cases h : okS s
  · exact ⟨_, _, _, rfl, fun e => by cases e⟩
  · exact ⟨_, _, _, rfl, fun _ => ⟨rfl, rfl, rfl⟩⟩

set_option maxHeartbeats 1600000 in
theorem legal20_any (s : ByteArray) (w : World) (hs : s.size ≤ 281474976710656) :
    Calls Try.prog 4 #[.string s] w fun e w' => e = .returned (.bool (okS s)) ∧ Below w.heap.size w w' := by
  obtain ⟨a, b, c, hr, hv⟩ := rdV_form s
  have HC := read20_any s w hs
  rw [hr] at HC
  have HR : Hid (Calls Try.prog 8 #[.string s] w fun e w' => e = .returned (.tuple #[.agg #[.string a, .string b, .string c], .bool (okS s)]) ∧ Below w.heap.size w w') := HC
  clear HC hr hv
  generalize okS s = o at *
  go_enter Try.func4, Try.ntmps4
  go_wp2_with fail
  refine HR.out.mono ?_
  rintro e w1 ⟨rfl, bel⟩
  have HB : Hid (Below w.heap.size w (w1.alloc (.cells #[.string a, .string b, .string c] 27))) := Below.alloc bel bel.size _
  clear bel
  go_wp2
  all_goals
    go_ret
    exact ⟨rfl, HB.out⟩
/-- what Cut answers -/
def cutV (s : ByteArray) : Value := if okS s then .tuple #[.string (epS s), .string (upS (taS s)), .string (reS (taS s)), .int .i64 0] else .tuple #[.string ⟨#[]⟩, .string ⟨#[]⟩, .string ⟨#[]⟩, .int .i64 200]
theorem clone20_any (s : ByteArray) (w : World) (hs : s.size ≤ 281474976710656) :
    Calls Try.prog 9 #[.string s] w fun e w' => e = .returned (.string s) ∧ Below w.heap.size w w' := by
  have HC : Hid (Calls Try.prog 20 #[.string s] w fun e w' => e = .returned (.string s) ∧ Below w.heap.size w w') := Try.stringslite_Clone s w hs
  go_enter Try.func9, Try.ntmps9
  go_wp2_with fail
  refine HC.out.mono ?_
  rintro e w1 ⟨rfl, bel⟩
  have HB : Hid (Below w.heap.size w w1) := bel
  go_wp2
  go_ret
  exact ⟨rfl, HB.out⟩
set_option maxHeartbeats 1600000 in
theorem cut20_any (s : ByteArray) (w : World) (hs : s.size ≤ 281474976710656) :
    Calls Try.prog 5 #[.string s] w fun e w' => e = .returned (cutV s) ∧ Below w.heap.size w w' := by
  obtain ⟨a, b, c, hr, hv⟩ := rdV_form s
  have HK : Hid (Calls Try.prog 9 #[.string s] w fun e w' => e = .returned (.string s) ∧ Below w.heap.size w w') := clone20_any s w hs
  have HR : Hid (∀ W, Calls Try.prog 8 #[.string s] W fun e w' => e = .returned (.tuple #[.agg #[.string a, .string b, .string c], .bool (okS s)]) ∧ Below W.heap.size W w') := fun W => by
    have := read20_any s W hs
    rw [hr] at this
    exact this
  have HV : Hid (okS s = true → a = epS s ∧ b = upS (taS s) ∧ c = reS (taS s)) := hv
  have HCv : Hid (cutV s = if okS s then .tuple #[.string (epS s), .string (upS (taS s)), .string (reS (taS s)), .int .i64 0] else .tuple #[.string ⟨#[]⟩, .string ⟨#[]⟩, .string ⟨#[]⟩, .int .i64 200]) := rfl
  clear hr hv
  generalize okS s = o at *
  generalize cutV s = CV at *
  go_enter Try.func5, Try.ntmps5
  go_wp2_with fail
  refine HK.out.mono ?_
  rintro e w0 ⟨rfl, bel0⟩
  have HB0 : Hid (Below w.heap.size w w0) := bel0
  clear bel0
  go_wp2_with fail
  refine (HR.out _).mono ?_
  rintro e w1 ⟨rfl, bel⟩
  have HB1 : Hid (Below w.heap.size w w1) := HB0.out.trans (bel.mono HB0.out.size)
  have H1 : Hid (Bp (w1.alloc (.cells #[.string a, .string b, .string c] 27)) w1.heap.size a b c) := Bp.new _ _ _ _
  have HB : Hid (Below w.heap.size w (w1.alloc (.cells #[.string a, .string b, .string c] 27))) := Below.alloc HB1.out HB1.out.size _
  have c0 := H1.out.c0
  have c1 := H1.out.c1
  have c2 := H1.out.c2
  clear bel HR HK
  cases o
  · go_wp2
    go_returns
    exact ⟨by rw [HCv.out]; rfl, HB.out⟩
  · obtain ⟨rfl, rfl, rfl⟩ := HV.out rfl
    go_wp2_with fail
    go_quiet (fail)
    go_wp2
    go_returns
    exact ⟨by rw [HCv.out]; rfl, HB.out.trans ⟨rfl, rfl, rfl, Nat.le_refl _, fun _ _ => rfl⟩⟩

end Go.Proofs.Ytpmhajifpagdlaa
