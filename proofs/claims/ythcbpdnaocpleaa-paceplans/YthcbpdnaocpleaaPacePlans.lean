/-
  PacePlans, walked.
  KEEP: walk putObj alloc same block size os tape output mono lt own new keep conf rest clr below grown step no yes done
-/
import Derived.Test.YthcbpdnaocpleaaPcX
import Derived.Test.YthcbpdnaocpleaaPcY
set_option linter.unusedSimpArgs false
set_option linter.unusedVariables false
namespace Go.Proofs.Ythcbpdnaocpleaa.pacePlans
open Go Go.RowKit

theorem smB_self (L : List (Int × Bool)) : smB L L = true := by simp [smB]

set_option maxHeartbeats 1600000 in
theorem walk (b f g : Int) (d : Nat) (p u n : Int) (w : World) (h1 : -9223372036854775808 ≤ n) (h2 : n ≤ 9223372036854775807) :
    Calls Try.prog 8 #[.agg #[.int .i64 b, .int .i64 f, .int .i64 g, .float .f64 d, .int .i64 p, .int .i64 u], .int .i64 n] w fun e w' => e = .returned (.bool true) ∧ Below w.heap.size w w' := by
  have HC : Hid (Cb (w.alloc (.cells #[.int .i64 b, .int .i64 f, .int .i64 g, .float .f64 d, .int .i64 p, .int .i64 u] 24)) w.heap.size b f g d p u) := Cb.new _ _ _ _ _ _ _
  have HB : Hid (Below w.heap.size w (w.alloc (.cells #[.int .i64 b, .int .i64 f, .int .i64 g, .float .f64 d, .int .i64 p, .int .i64 u] 24))) := below_new _ _
  rcases (by omega : n ≤ 20000 ∨ (20000 < n ∧ 1048576 ≤ n) ∨ (20000 < n ∧ n < 1048576)) with hn | ⟨hn, hn2⟩ | ⟨hn, hn2⟩
  all_goals
    go_enter Try.func8, Try.ntmps8
    go_upto_region 3 with fail
    generalize w.alloc (.cells #[.int .i64 b, .int .i64 f, .int .i64 g, .float .f64 d, .int .i64 p, .int .i64 u] 24) = W1 at *
    obtain ⟨k0, k1, k2, k3, k4, k5⟩ := HC.out.cells
    go_upto_region 4 with (go_at_call 10; refine (plan_any _ _ _ _ _ _ _ _).mono ?_; rintro e w2 ⟨v2, rfl, ho2, bel2⟩)
    have HC2 : Hid (Cb w2 w.heap.size b f g d p u) := HC.out.on bel2 HC.out.lt
    have HB2 : Hid (Below w.heap.size w w2) := HB.out.next bel2 (Nat.le_refl _)
    have HO2 : Hid (OwnB W1.heap.size w2 v2 (plL b f g d p _)) := ho2
    clear k0 k1 k2 k3 k4 k5 HC HB bel2 ho2
    obtain ⟨k0, k1, k2, k3, k4, k5⟩ := HC2.out.cells
    go_upto_region 5 with (go_at_call 18; refine (rPlan_any _ _ _ _ _ _ _ _).mono ?_; rintro e w3 ⟨v3, rfl, ho3, bel3⟩)
    have hrd2 := (HO2.out.below bel3).rd
    have hrd3 := ho3.rd
    have HB3 : Hid (Below w.heap.size w w3) := HB2.out.next bel3 (Nat.le_refl _)
    have HS : Hid (Calls Try.prog 19 #[v2, v3] w3 fun e w' => e = .returned (.bool true) ∧ Below w3.heap.size w3 w') := by
      have := same_any v2 v3 _ _ w3 hrd2 hrd3
      rwa [smB_self] at this
    clear k0 k1 k2 k3 k4 k5 HC2 HB2 HO2 ho3 bel3 hrd2 hrd3
    generalize plE b f g d p _ = E at *
    go_wp2_with (go_at_call 19; refine HS.out.mono ?_; rintro e w4 ⟨rfl, bel4⟩)
    go_ret
    exact ⟨rfl, HB3.out.next bel4 (Nat.le_refl _)⟩
end Go.Proofs.Ythcbpdnaocpleaa.pacePlans
