/-
  The document's Cut, walked; the law VersionLegal.
  KEEP: set below kept walk
-/
import Derived.Test.YtpmhajifpagdlaaVsF
import Derived.Test.YtpmhajifpagdlaaVsC
set_option linter.unusedSimpArgs false
set_option linter.unusedVariables false
namespace Go.Proofs.Ytpmhajifpagdlaa
open Go Go.RowKit

set_option maxHeartbeats 1600000 in
theorem rCut20_any (s : ByteArray) (w : World) (hs : s.size ≤ 281474976710656) :
    Calls Try.prog 6 #[.string s] w fun e w' => e = .returned (cutV s) ∧ Below w.heap.size w w' := by
  have HL : Hid (Calls Try.prog 7 #[.string s] w fun e w' => e = .returned (.bool (okS s)) ∧ Below w.heap.size w w') := rLegal20_any s w hs
  have HP' := fun W => parted20_any s W hs
  have HCv : Hid (cutV s = if okS s then .tuple #[.string (epS s), .string (upS (taS s)), .string (reS (taS s)), .int .i64 0] else .tuple #[.string ⟨#[]⟩, .string ⟨#[]⟩, .string ⟨#[]⟩, .int .i64 200]) := rfl
  unfold ptV at HP'
  generalize epS s = E at *
  generalize upS (taS s) = U at *
  generalize reS (taS s) = R at *
  generalize decide (0 ≤ iC s) = C at *
  generalize decide (0 ≤ iM (taS s)) = M at *
  have HP : Hid (∀ W, Calls Try.prog 10 #[.string s] W fun e w' => e = .returned (.agg #[.string E, .string U, .string R, .bool C, .bool M]) ∧ Below W.heap.size W w') := HP'
  clear HP'
  generalize okS s = o at *
  generalize cutV s = CV at *
  go_enter Try.func6, Try.ntmps6
  go_wp2_with fail
  refine HL.out.mono ?_
  rintro e w0 ⟨rfl, bel0⟩
  have HB0 : Hid (Below w.heap.size w w0) := bel0
  clear bel0 HL
  cases o
  · go_wp2
    go_returns
    exact ⟨by rw [HCv.out]; rfl, HB0.out⟩
  · go_wp2_with fail
    refine (HP.out _).mono ?_
    rintro e w1 ⟨rfl, bel⟩
    have HB1 : Hid (Below w.heap.size w w1) := HB0.out.trans (bel.mono HB0.out.size)
    have H1 : Hid (Bq (w1.alloc (.cells #[.string E, .string U, .string R, .bool C, .bool M] 32)) w1.heap.size E U R C M) := Bq.newS _ _ _ _ _ _ _ rfl
    have HB : Hid (Below w.heap.size w (w1.alloc (.cells #[.string E, .string U, .string R, .bool C, .bool M] 32))) := Below.alloc HB1.out HB1.out.size _
    have c0 := H1.out.c0
    have c1 := H1.out.c1
    have c2 := H1.out.c2
    clear bel HP
    go_wp2_with fail
    go_quiet (fail)
    go_wp2
    go_returns
    exact ⟨by rw [HCv.out]; rfl, HB.out.trans ⟨rfl, rfl, rfl, Nat.le_refl _, fun _ _ => rfl⟩⟩

def ex20 : ByteArray := ⟨#[50, 58, 49, 46, 48, 126, 114, 99, 49, 45, 49]⟩
theorem ex20_ok : okS ex20 = true := by rfl
end Go.Proofs.Ytpmhajifpagdlaa
