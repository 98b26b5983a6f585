/-
  The law VersionLegal, walked.
  KEEP: walk below
-/
import Derived.Test.YtpmhajifpagdlaaVsG
set_option linter.unusedSimpArgs false
set_option linter.unusedVariables false
namespace Go.Proofs.Ytpmhajifpagdlaa.versionLegal
open Go Go.RowKit

set_option maxHeartbeats 1600000 in
theorem walk (s : ByteArray) (W : World) (hs : s.size ≤ 281474976710656) : Calls Try.prog 3 #[.string s] W fun e w' => e = .returned (.bool true) ∧ Below W.heap.size W w' := by
  have HX : Hid (Calls Try.prog 4 #[.string ⟨#[50, 58, 49, 46, 48, 126, 114, 99, 49, 45, 49]⟩] W fun e w' => e = .returned (.bool true) ∧ Below W.heap.size W w') := by
    have := legal20_any ex20 W (by decide)
    rw [ex20_ok] at this
    exact this
  have HL : Hid (∀ w, Calls Try.prog 4 #[.string s] w fun e w' => e = .returned (.bool (okS s)) ∧ Below w.heap.size w w') := fun w => legal20_any s w hs
  have HRL : Hid (∀ w, Calls Try.prog 7 #[.string s] w fun e w' => e = .returned (.bool (okS s)) ∧ Below w.heap.size w w') := fun w => rLegal20_any s w hs
  obtain ⟨a, b, c, x, hcv⟩ : ∃ a b c : ByteArray, ∃ x : Int, cutV s = .tuple #[.string a, .string b, .string c, .int .i64 x] := by
    unfold cutV
    cases okS s
    · exact ⟨_, _, _, _, rfl⟩
    · exact ⟨_, _, _, _, rfl⟩
  have HC : Hid (∀ w, Calls Try.prog 5 #[.string s] w fun e w' => e = .returned (.tuple #[.string a, .string b, .string c, .int .i64 x]) ∧ Below w.heap.size w w') := fun w => by
    have := cut20_any s w hs
    rw [hcv] at this
    exact this
  have HRC : Hid (∀ w, Calls Try.prog 6 #[.string s] w fun e w' => e = .returned (.tuple #[.string a, .string b, .string c, .int .i64 x]) ∧ Below w.heap.size w w') := fun w => by
    have := rCut20_any s w hs
    rw [hcv] at this
    exact this
  clear hcv hs
  generalize okS s = o at *
  go_enter Try.func3, Try.ntmps3
  go_wp2_with fail
  refine HX.out.mono ?_
  rintro e w0 ⟨rfl, bel0⟩
  have HB0 : Hid (Below W.heap.size W w0) := bel0
  clear bel0 HX
  go_wp2_with fail
  refine (HC.out _).mono ?_
  rintro e w1 ⟨rfl, bel1⟩
  have HB1 : Hid (Below W.heap.size W w1) := HB0.out.trans (bel1.mono HB0.out.size)
  clear bel1 HB0 HC
  go_wp2_with fail
  refine (HRC.out _).mono ?_
  rintro e w2 ⟨rfl, bel2⟩
  have HB2 : Hid (Below W.heap.size W w2) := HB1.out.trans (bel2.mono HB1.out.size)
  clear bel2 HB1 HRC
  go_wp2_with fail
  refine (HL.out _).mono ?_
  rintro e w3 ⟨rfl, bel3⟩
  have HB3 : Hid (Below W.heap.size W w3) := HB2.out.trans (bel3.mono HB2.out.size)
  clear bel3 HB2 HL
  go_wp2_with fail
  refine (HRL.out _).mono ?_
  rintro e w4 ⟨rfl, bel4⟩
  have HB4 : Hid (Below W.heap.size W w4) := HB3.out.trans (bel4.mono HB3.out.size)
  clear bel4 HB3 HRL
  go_wp2
  go_ret
  exact ⟨ret_bool (by cases o <;> simp), HB4.out⟩

end Go.Proofs.Ytpmhajifpagdlaa.versionLegal
