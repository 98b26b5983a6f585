/-
  DimacsSays, walked.
-/
import Derived.Test.YtbjahkgachcbkaaDoorWaW
import Derived.Test.YtbjahkgachcbkaaDoorRWa
import Derived.Test.YtbjahkgachcbkaaDoorCopyBs
set_option linter.unusedSimpArgs false
set_option linter.unusedVariables false
namespace Go.Proofs.YtbjahkgachcbkaaDoor.dimacsSays
open Go Go.RowKit Go.Lib Go.Sort

set_option maxHeartbeats 1600000 in
set_option maxRecDepth 100000 in
theorem walk (sat : Bool) (vm : Value) (m : List Bool) (w : World) (hm : RdB w vm m) (hl : m.length ≤ 1048576) (ht : TensY w) :
    Calls Tryd.prog 7 #[.bool sat, vm] w fun e w' => e = .returned (.bool true) ∧ RowKit.Below w.heap.size w w' := by
  have HM : Hid (RdB w vm m) := hm
  have HT : Hid (TensY w) := ht
  obtain ⟨am, cm, rfl, -⟩ := hm.form
  obtain ⟨X, hX⟩ : ∃ X, X = ansF sat m := ⟨_, rfl⟩
  have HW : Hid (∀ W u, RdB W u m → TensY W → Calls Tryd.prog 18 #[.bool sat, u] W fun e w' => e = .returned (.string ⟨X.toArray⟩) ∧ RowKit.Below W.heap.size W w') := fun W u h1 h2 => by rw [hX]; exact writeAnswer_any sat u m W h1 hl h2
  have HR : Hid (∀ W u, RdB W u m → TensY W → Calls Tryd.prog 20 #[.bool sat, u] W fun e w' => e = .returned (.string ⟨X.toArray⟩) ∧ RowKit.Below W.heap.size W w') := fun W u h1 h2 => by rw [hX]; exact rWriteAnswer_any sat u m W h1 hl h2
  clear hm ht hX
  go_enter Tryd.func7, Tryd.ntmps7
  go_wp2_with fail
  refine (copyBools_any _ m w HM.out (by omega)).mono ?_
  rintro e w1 ⟨u1, rfl, own1, bel1⟩
  have R1 : Hid (RdB w1 u1 m) := own1.rd (by omega)
  clear own1
  go_wp2_with fail
  refine (HW.out w1 u1 R1.out (HT.out.below bel1)).mono ?_
  rintro e w2 ⟨rfl, bel2⟩
  have B2 : Hid (RowKit.Below w.heap.size w w2) := Below.step bel1 bel2
  go_wp2_with fail
  refine (HR.out w2 _ (HM.out.below B2.out) (HT.out.below B2.out)).mono ?_
  rintro e w3 ⟨rfl, bel3⟩
  go_wp2
  go_ret
  exact ⟨rfl, Below.step B2.out bel3⟩

end Go.Proofs.YtbjahkgachcbkaaDoor.dimacsSays
