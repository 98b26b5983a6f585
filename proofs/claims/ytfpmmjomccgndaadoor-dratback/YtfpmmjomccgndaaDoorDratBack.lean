/-
  DratBack, walked.
  KEEP: below rdz form out len
-/
import Derived.Test.YtfpmmjomccgndaaDoorDrWr
import Derived.Test.YtfpmmjomccgndaaDoorDrC
import Derived.Test.YtfpmmjomccgndaaDoorDrSd
import Derived.Test.YtfpmmjomccgndaaDoorDrRe
import Derived.Test.YtfpmmjomccgndaaDoorOpenZ
set_option linter.unusedSimpArgs false
set_option linter.unusedVariables false
namespace Go.Proofs.YtfpmmjomccgndaaDoor
theorem wz9 {l : List Stp} (h : stpN l ≤ 1048576) : wz l ≤ 1099511627776 := by unfold stpN at h; unfold wz; omega
theorem drW_size {l : List Stp} (h : stpN l ≤ 1048576) (hs : sndS l = true) : (drW l).length ≤ 1099511627776 := by
  have := drW_len l hs; have := wz9 h; unfold wz at this; omega
namespace dratBack
open Go Go.RowKit Go.Lib Go.Sort

set_option maxHeartbeats 3200000 in
set_option maxRecDepth 100000 in
theorem walk (s : Value) (l : List Stp) (w : World) (hr : RdZ w s l) (hb : stpN l ≤ 1048576) (he : Env w) :
    Calls Tryd.prog 8 #[s] w fun e w' => e = .returned (.bool true) ∧ RowKit.Below w.heap.size w w' := by
  have hl := hr.len
  have HR : Hid (RdZ w s l) := hr
  have H8 : Hid (∀ x ∈ l, x.2.length * 8 ≤ 140737488351232) := rdz_each hr
  have HE0 : Hid (Env w) := he
  obtain ⟨a, c, rfl, hc, hm, _⟩ := hr.form
  have HWr : Hid (∀ W u, RdZ W u l → TensY W → Calls Tryd.prog 14 #[u] W fun e w' => e = .returned (.tuple #[.string ⟨(if sndS l then drW l else []).toArray⟩, .int .i64 (if sndS l then 0 else 1)]) ∧ RowKit.Below W.heap.size W w') := fun W u h1 h2 => drWrite_any u l W h1 (wz9 hb) h2
  have HSz : Hid (sndS l = true → (drW l).length ≤ 1099511627776) := fun h => drW_size hb h
  clear hr hb he
  cases hs : sndS l
  · have HW2 : Hid (∀ W u, RdZ W u l → TensY W → Calls Tryd.prog 14 #[u] W fun e w' => e = .returned (.tuple #[.string ⟨#[]⟩, .int .i64 1]) ∧ RowKit.Below W.heap.size W w') := fun W u h1 h2 => by have := HWr.out W u h1 h2; rw [hs] at this; exact this
    clear HWr HSz
    go_enter Tryd.func8, Tryd.ntmps8
    go_wp2_with fail
    refine (copySteps_any _ l _ HR.out).mono ?_
    rintro e w1 ⟨u1, rfl, own1, bel1⟩
    have R1 : Hid (RdZ w1 u1 l) := own1.rdz hl H8.out
    have E1 : Hid (Env w1) := HE0.out.below bel1
    have R0 : Hid (RdZ w1 (.slice a l.length c) l) := HR.out.below bel1
    clear own1
    go_wp2_with fail
    refine (HW2.out w1 u1 R1.out E1.out.1).mono ?_
    rintro e w2 ⟨rfl, bel2⟩
    have R2 : Hid (RdZ w2 (.slice a l.length c) l) := R0.out.below bel2
    go_wp2_with fail
    refine (sound9_any _ l w2 R2.out).mono ?_
    rw [hs]
    rintro e w3 ⟨rfl, rfl⟩
    go_wp2
    go_ret
    exact ⟨rfl, Below.step bel1 bel2⟩
  · have HW2 : Hid (∀ W u, RdZ W u l → TensY W → Calls Tryd.prog 14 #[u] W fun e w' => e = .returned (.tuple #[.string ⟨(drW l).toArray⟩, .int .i64 0]) ∧ RowKit.Below W.heap.size W w') := fun W u h1 h2 => by have := HWr.out W u h1 h2; rw [hs] at this; exact this
    have HRe : Hid (∀ W, Env W → Calls Tryd.prog 11 #[.string ⟨(drW l).toArray⟩] W fun e w' => ∃ v, e = .returned (.tuple #[v, .int .i64 0, .int .i64 0]) ∧ RdZ w' v l ∧ RowKit.Below W.heap.size W w') := fun W hW => by
      have h1 := readD_any ⟨(drW l).toArray⟩ W (HSz.out hs) hW
      have h2 : parD (⟨(drW l).toArray⟩ : ByteArray).data.toList = (l, 0) := par_back l hs
      rw [h2] at h1
      exact h1.mono fun e w' ⟨v, q1, q2, q3, q4⟩ => ⟨v, q1, q3, q4⟩
    clear HWr HSz
    generalize drW l = T at *
    go_enter Tryd.func8, Tryd.ntmps8
    go_wp2_with fail
    refine (copySteps_any _ l _ HR.out).mono ?_
    rintro e w1 ⟨u1, rfl, own1, bel1⟩
    have R1 : Hid (RdZ w1 u1 l) := own1.rdz hl H8.out
    have E1 : Hid (Env w1) := HE0.out.below bel1
    have R0 : Hid (RdZ w1 (.slice a l.length c) l) := HR.out.below bel1
    clear own1
    go_wp2_with fail
    refine (HW2.out w1 u1 R1.out E1.out.1).mono ?_
    rintro e w2 ⟨rfl, bel2⟩
    have R2 : Hid (RdZ w2 (.slice a l.length c) l) := R0.out.below bel2
    have E2 : Hid (Env w2) := E1.out.below bel2
    go_wp2_with fail
    refine (sound9_any _ l w2 R2.out).mono ?_
    rw [hs]
    rintro e w3 ⟨rfl, hw3⟩
    obtain rfl := hw3.symm
    go_wp2_with fail
    refine (HRe.out w2 E2.out).mono ?_
    rintro e w4 ⟨v, rfl, rv, bel4⟩
    have R4 : Hid (RdZ w4 (.slice a l.length c) l) := R2.out.below bel4
    obtain ⟨va, vc, hv, _⟩ := rv.form
    have RV : Hid (RdZ w4 v l) := rv
    subst hv
    have HSm : Hid (Calls Tryd.prog 13 #[.slice a l.length c, .slice va l.length vc] w4 fun e w' => e = .returned (.bool true) ∧ RowKit.Below w4.heap.size w4 w') := by
      have := sameSteps_any _ _ l l w4 R4.out RV.out
      rwa [show (l == l) = true from beq_self_eq_true l] at this
    clear rv
    go_wp2_with (go_at_call 13; refine HSm.out.mono ?_; rintro e w5 ⟨rfl, bel5⟩)
    go_ret
    exact ⟨rfl, Below.step (Below.step (Below.step bel1 bel2) bel4) bel5⟩

end dratBack
end Go.Proofs.YtfpmmjomccgndaaDoor
