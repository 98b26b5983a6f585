/-
  DratWrites, walked.
  KEEP: below rdz form out
-/
import Derived.Test.YtfpmmjomccgndaaDoorDrWr
import Derived.Test.YtfpmmjomccgndaaDoorRDrW
import Derived.Test.YtfpmmjomccgndaaDoorDrC
import Derived.Test.YtfpmmjomccgndaaDoorOpenZ
set_option linter.unusedSimpArgs false
set_option linter.unusedVariables false
namespace Go.Proofs.YtfpmmjomccgndaaDoor
theorem wz_of {l : List Stp} (h : stpN l ≤ 1048576) : wz l ≤ 1099511627776 := by unfold stpN at h; unfold wz; omega
namespace dratWrites
open Go Go.RowKit Go.Lib Go.Sort

set_option maxHeartbeats 3200000 in
set_option maxRecDepth 100000 in
theorem walk (s : Value) (l : List Stp) (w : World) (hr : RdZ w s l) (hb : stpN l ≤ 1048576) (htab : TensY w) :
    Calls Tryd.prog 5 #[s] w fun e w' => e = .returned (.bool true) ∧ RowKit.Below w.heap.size w w' := by
  have hl := hr.len
  have HR : Hid (RdZ w s l) := hr
  have H8 : Hid (∀ x ∈ l, x.2.length * 8 ≤ 140737488351232) := rdz_each hr
  have HT0 : Hid (TensY w) := htab
  obtain ⟨a, c, rfl, hc, hm, _⟩ := hr.form
  obtain ⟨X, hX⟩ : ∃ X, X = (if sndS l = true then drW l else []) := ⟨_, rfl⟩
  obtain ⟨E, hE⟩ : ∃ E : Int, E = (if sndS l = true then 0 else 1) := ⟨_, rfl⟩
  have HW : Hid (∀ W u, RdZ W u l → TensY W → Calls Tryd.prog 14 #[u] W fun e w' => e = .returned (.tuple #[.string ⟨X.toArray⟩, .int .i64 E]) ∧ RowKit.Below W.heap.size W w') := fun W u h1 h2 => by rw [hX, hE]; exact drWrite_any u l W h1 (wz_of hb) h2
  have HV : Hid (∀ W u, RdZ W u l → TensY W → Calls Tryd.prog 16 #[u] W fun e w' => e = .returned (.tuple #[.string ⟨X.toArray⟩, .int .i64 E]) ∧ RowKit.Below W.heap.size W w') := fun W u h1 h2 => by rw [hX, hE]; exact rDrWrite_any u l W h1 (wz_of hb) h2
  clear hr hb htab hX hE
  go_enter Tryd.func5, Tryd.ntmps5
  go_wp2_with fail
  refine (copySteps_any _ l _ HR.out).mono ?_
  rintro e w1 ⟨u1, rfl, own1, bel1⟩
  have R1 : Hid (RdZ w1 u1 l) := own1.rdz hl H8.out
  have T1 : Hid (TensY w1) := HT0.out.below bel1
  have R0 : Hid (RdZ w1 (.slice a l.length c) l) := HR.out.below bel1
  have B1 : Hid (RowKit.Below w.heap.size w w1) := bel1
  clear own1 bel1 HR HT0
  go_wp2_with fail
  refine (HW.out w1 u1 R1.out T1.out).mono ?_
  rintro e w2 ⟨rfl, bel2⟩
  have T2 : Hid (TensY w2) := T1.out.below bel2
  have R2 : Hid (RdZ w2 (.slice a l.length c) l) := R0.out.below bel2
  have B2 : Hid (RowKit.Below w.heap.size w w2) := Below.step B1.out bel2
  clear bel2 R1 R0
  go_wp2_with fail
  refine (HV.out w2 _ R2.out T2.out).mono ?_
  rintro e w3 ⟨rfl, bel3⟩
  go_wp2
  go_ret
  exact ⟨rfl, Below.step B2.out bel3⟩

end dratWrites
end Go.Proofs.YtfpmmjomccgndaaDoor
