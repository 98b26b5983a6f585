/-
  depotlaw03.shaped and readsOne, walked.
  KEEP: set on app at below new trans refl start ap kept rd rds mono
-/
import Derived.Test.YtaipajalkendaaaDoorReadW
import Derived.Test.YtaipajalkendaaaDoorSames
import Derived.Test.YtaipajalkendaaaDoorSameF
import Derived.Test.YtaipajalkendaaaDoorRdBack
set_option linter.unusedSimpArgs false
set_option linter.unusedVariables false
namespace Go.Proofs.YtaipajalkendaaaDoor
open Go Go.RowKit

theorem fit3 {n l : Int} (h0 : 0 ≤ n) (h1 : n ≤ 1048576) : (fmd l && decide (varOf l ≤ n)) = (!decide (l = 0) && !decide (n < l) && !decide (l < -n)) := by
  unfold varOf
  rcases fmd_cases l with ⟨h, a0, a1, a2⟩ | ⟨h, a0⟩
  · rw [h, Bool.eq_iff_iff]
    by_cases hs : l < 0
    · simp only [hs, Bool.true_and, if_true, decide_eq_true_eq, Bool.and_eq_true, Bool.not_eq_true', decide_eq_false_iff_not]; omega
    · simp only [hs, Bool.true_and, if_true, if_false, decide_eq_true_eq, Bool.and_eq_true, Bool.not_eq_true', decide_eq_false_iff_not]; omega
  · rw [h, Bool.false_and]
    symm
    rw [Bool.eq_false_iff]
    intro hh
    simp only [decide_eq_true_eq, Bool.and_eq_true, Bool.not_eq_true', decide_eq_false_iff_not] at hh
    omega

theorem one_read : rdF [112, 32, 99, 110, 102, 32, 50, 32, 49, 10, 49, 32, 45, 50, 32, 48, 10] = ⟨2, [[1, -2]], 0, 0⟩ := by
  have h := rdF_wrF 2 [[1, -2]] (by decide) (by decide)
  have e : wrF 2 [[1, -2]] = [112, 32, 99, 110, 102, 32, 50, 32, 49, 10, 49, 32, 45, 50, 32, 48, 10] := by decide +kernel
  rw [e] at h; exact h

theorem readsOne_any (w : World) :
    Calls Tryd.prog 11 #[] w fun e w' => e = .returned (.bool true) ∧ Below w.heap.size w w' := by
  go_enter Tryd.func11, Tryd.ntmps11
  go_wp2_with fail
  refine (dimRead_any ⟨#[112, 32, 99, 110, 102, 32, 50, 32, 49, 10, 49, 32, 45, 50, 32, 48, 10]⟩ w (by decide) (fun x _ => x.toNat_lt)).mono ?_
  rw [show (⟨#[112, 32, 99, 110, 102, 32, 50, 32, 49, 10, 49, 32, 45, 50, 32, 48, 10]⟩ : ByteArray).data.toList = [112, 32, 99, 110, 102, 32, 50, 32, 49, 10, 49, 32, 45, 50, 32, 48, 10] from rfl, one_read]
  rintro e w1 ⟨s1, rfl, own1, bel1⟩
  simp only at own1 ⊢
  have R1 : Hid (Rds w1 s1 [[1, -2]]) := own1.rds (by simp) (by simp)
  have HX : Hid (Bx w1 2 s1 [[1, -2]] (w1.alloc (.cells #[.int .i64 2, s1] 24))) := Bx.new R1.out _
  have HB1 : Hid (Below w.heap.size w w1) := bel1
  obtain ⟨a, c, rfl, hc, hm, hcell⟩ := R1.out.form
  obtain ⟨b, off, u, rfl, hck, hu0⟩ := hcell 0 (by simp)
  have hck2 := (below_box w1 (.cells #[.int .i64 2, .slice (some ⟨b, off, none⟩) [[1, -2]].length c] 24)).cell (p := ⟨b, off + 0, none⟩) (World.block_lt_of_cell? w1 _ hck)
  rw [hck] at hck2
  have HU : Hid (Rd ((w1.alloc (.cells #[.int .i64 2, .slice (some ⟨b, off, none⟩) 1 c] 24)).alloc (.cells #[.int .i64 1, .int .i64 (-2)] 3)) u [1, -2]) := (hu0.below (below_box _ _)).below (below_box _ _)
  have HV : Hid (Rd ((w1.alloc (.cells #[.int .i64 2, .slice (some ⟨b, off, none⟩) 1 c] 24)).alloc (.cells #[.int .i64 1, .int .i64 (-2)] 3)) (.slice (some ⟨w1.heap.size + 1, 0, none⟩) 2 2) [1, -2]) := by
    have := World.ownsRow_lit (e := 3) (size := 1) (base := 0) (w1.alloc (.cells #[.int .i64 2, .slice (some ⟨b, off, none⟩) 1 c] 24)) #[.int .i64 1, .int .i64 (-2)] 2 (Nat.zero_le _) (by unfold maxLen; omega) rfl
    rw [World.size_alloc] at this
    exact Own.rd (base := 0) (zs := [1, -2]) this (by simp)
  have HB2 : Hid (Below w1.heap.size w1 ((w1.alloc (.cells #[.int .i64 2, .slice (some ⟨b, off, none⟩) 1 c] 24)).alloc (.cells #[.int .i64 1, .int .i64 (-2)] 3))) := (below_box _ _).alloc (by rw [World.size_alloc]; omega) _
  have c0 := HX.out.c0
  have c1 := HX.out.c1
  clear own1 bel1 hcell hu0 hck R1 HX
  simp only [List.length_cons, List.length_nil, Nat.zero_add, Nat.add_zero] at hck2 c0 c1 ⊢
  go_wp2_with fail
  generalize (w1.alloc (.cells #[.int .i64 2, .slice (some ⟨b, off, none⟩) 1 c] 24)).alloc (.cells #[.int .i64 1, .int .i64 (-2)] 3) = W2 at *
  refine (sameInts_any _ _ [1, -2] [1, -2] W2 HU.out HV.out).mono ?_
  rintro e w3 ⟨rfl, bel3⟩
  have HB3 : Hid (Below w.heap.size w w3) := (HB1.out.trans (HB2.out.mono HB1.out.size)).trans (bel3.mono (Nat.le_trans HB1.out.size HB2.out.size))
  clear bel3 hck2 c0 c1
  go_wp2
  go_ret
  exact ⟨rfl, HB3.out⟩

end Go.Proofs.YtaipajalkendaaaDoor
