/-
  joined: Num Ngw Nwf
-/
import Derived.Test.YtgaojmcmpdjfmaaDoorJPlain
import Derived.Test.YtgaojmcmpdjfmaaDoorProg
import Derived.WalkKit
set_option linter.unusedSimpArgs false
set_option linter.unusedVariables false
namespace Go.Proofs.YtgaojmcmpdjfmaaDoor
open Go.RowKit

theorem ret_bool {a b : Bool} (h : a = b) : Ending.returned (.bool a) = .returned (.bool b) := by rw [h]
theorem ret_int {k : IntKind} {a b : Int} (h : a = b) : Ending.returned (.int k a) = .returned (.int k b) := by rw [h]

theorem formed_any (l : Int) (w : World) :
    Calls Tryd.prog 33 #[.int .i64 l] w fun e w' => e = .returned (.bool (fmd l)) ∧ w' = w := by
  go_enter Tryd.func33, Tryd.ntmps33
  go_wp2
  all_goals (go_ret; exact ⟨ret_bool (by rw [Bool.eq_iff_iff]; simp [fmd]; try omega), rfl⟩)

theorem index_any (l : Int) (w : World) :
    Calls Tryd.prog 43 #[.int .i64 l] w fun e w' => e = .returned (.int .i64 (idx l)) ∧ w' = w := by
  rcases fmd_cases l with ⟨h, h0, h1, h2⟩ | ⟨h, h0⟩
  all_goals
    go_enter Tryd.func43, Tryd.ntmps43
    go_wp2_with (go_at_call 33; refine (formed_any _ _).mono ?_; rintro e w' ⟨rfl, rfl⟩)
    all_goals (go_ret; exact ⟨ret_int (by simp [idx, h]; try omega), rfl⟩)

theorem var_any (l : Int) (w : World) :
    Calls Tryd.prog 45 #[.int .i64 l] w fun e w' => e = .returned (.int .i64 (varOf l)) ∧ w' = w := by
  rcases fmd_cases l with ⟨hf, h0, h1, h2⟩ | ⟨hf, h0⟩
  · have hp : 0 ≤ l → varOf l = l := fun h => by simp [varOf, hf]; omega
    have hn : l < 0 → varOf l = -l := fun h => by simp [varOf, hf]; omega
    go_enter Tryd.func45, Tryd.ntmps45
    go_wp2_with (go_at_call 33; refine (formed_any _ _).mono ?_; rintro e w' ⟨rfl, rfl⟩)
    all_goals (go_ret; exact ⟨ret_int (by first | rw [hp (by omega)] | rw [hn (by omega)]), rfl⟩)
  · have hz : varOf l = 0 := by simp [varOf, hf]
    go_enter Tryd.func45, Tryd.ntmps45
    go_wp2_with (go_at_call 33; refine (formed_any _ _).mono ?_; rintro e w' ⟨rfl, rfl⟩)
    all_goals (go_ret; exact ⟨ret_int hz.symm, rfl⟩)

theorem at_any (i : Int) (w : World) :
    Calls Tryd.prog 70 #[.int .i64 i] w fun e w' => e = .returned (.int .i64 (litAt i)) ∧ w' = w := by
  by_cases hr : 0 ≤ i ∧ i < 2097152
  · obtain ⟨h0, h1⟩ := hr
    rcases Int.emod_two_eq i with h | h
    · have hz := litAt_even h0 h1 h
      have hb : (i % 2 == 1) = false := by simp [h]
      have H : Hid (litAt i = i / 2 + 1) := hz
      clear hz h
      go_enter Tryd.func70, Tryd.ntmps70
      go_wp2
      all_goals (go_ret; exact ⟨ret_int H.out.symm, rfl⟩)
    · have hz := litAt_odd h0 h1 h
      have hb : (i % 2 == 1) = true := by simp [h]
      have H : Hid (litAt i = -(i / 2 + 1)) := hz
      clear hz h
      go_enter Tryd.func70, Tryd.ntmps70
      go_wp2
      all_goals (go_ret; exact ⟨ret_int H.out.symm, rfl⟩)
  · have hz : litAt i = 0 := litAt_none (by omega)
    have H : Hid (litAt i = 0) := hz
    clear hz
    have hr' : i < 0 ∨ 2097152 ≤ i := by omega
    clear hr
    rcases hr' with hr | hr
    all_goals
      go_enter Tryd.func70, Tryd.ntmps70
      go_wp2
      all_goals (go_ret; exact ⟨ret_int H.out.symm, rfl⟩)

end Go.Proofs.YtgaojmcmpdjfmaaDoor
set_option linter.unusedSimpArgs false
set_option linter.unusedVariables false
namespace Go.Proofs.YtgaojmcmpdjfmaaDoor
open Go Go.RowKit

/-- a number of 64 bits -/
def i64 (x : Int) : Prop := -9223372036854775808 ≤ x ∧ x ≤ 9223372036854775807
/-- the opposite, as the program reckons it -/
def ngw (x : Int) : Int := IntKind.i64.wrap (-x)
theorem ngw_fmd {x : Int} (h : fmd x = true) : ngw x = -x := by
  have := fmd_range h
  unfold ngw; rw [IntKind.wrap_i64]; omega
theorem fmd_ngw {x : Int} (h : i64 x) : fmd (ngw x) = fmd x := by
  unfold i64 at h
  by_cases e : x = -9223372036854775808
  · subst e; decide
  · have e2 : ngw x = -x := by unfold ngw; rw [IntKind.wrap_i64]; omega
    rw [e2]
    cases h2 : fmd x
    · cases h3 : fmd (-x)
      · rfl
      · have := fmd_neg h3
        rw [Int.neg_neg, h2] at this; cases this
    · exact fmd_neg h2
theorem opw_all {c : List Int} (h : ∀ x ∈ c, i64 x) : (c.map ngw).all fmd = c.all fmd := by
  induction c with
  | nil => rfl
  | cons x r ih =>
    rw [List.map_cons, List.all_cons, List.all_cons, ih (fun y hy => h y (List.mem_cons_of_mem _ hy)), fmd_ngw (h x (by simp))]
end Go.Proofs.YtgaojmcmpdjfmaaDoor
set_option linter.unusedSimpArgs false
set_option linter.unusedVariables false
namespace Go.Proofs.YtgaojmcmpdjfmaaDoor
open Go Go.RowKit
theorem wf_i64 {n : Int} (h : (Lit.int .i64 n).wf = true) : i64 n := by
  unfold Lit.wf at h
  simp [IntKind.min, IntKind.max, IntKind.bits, IntKind.signed] at h
  unfold i64
  omega
end Go.Proofs.YtgaojmcmpdjfmaaDoor
