/-
  depotkit.Pick.
-/
import Derived.Test.YtbfjhgiifmhccaaHtO
set_option linter.unusedSimpArgs false
set_option linter.unusedVariables false
namespace Go.Proofs.Ytbfjhgiifmhccaa
open Go Go.RowKit

/-- what Pick answers -/
def pk14 (z : Int) (k : Nat) : Nat := (if z.tmod k < 0 then z.tmod k + k else z.tmod k).toNat
theorem pk14_lt (z : Int) {k : Nat} (hk : 0 < k) : pk14 z k < k := by
  have h1 : z.tmod k < k := Int.tmod_lt_of_pos z (by omega)
  have h2 : -(k : Int) < z.tmod k := by
    have := Int.tmod_lt_of_pos (-z) (show (0 : Int) < k by omega)
    rw [Int.neg_tmod] at this; omega
  unfold pk14; split <;> omega
theorem pick14_any (z : Int) (k : Nat) (w : World) (hk : 0 < k) (hk2 : k ≤ 1048576) :
    Calls Try.prog 9 #[.int .i64 z, .int .i64 k] w fun e w' => e = .returned (.int .i64 (pk14 z k)) ∧ w' = w := by
  have h1 : z.tmod k < k := Int.tmod_lt_of_pos z (by omega)
  have h2 : -(k : Int) < z.tmod k := by
    have := Int.tmod_lt_of_pos (-z) (show (0 : Int) < k by omega)
    rw [Int.neg_tmod] at this; omega
  have hk0 : (k : Int) ≠ 0 := by omega
  have hkb : ((k : Int) == 0) = false := by simp; omega
  have hwr : IntKind.i64.wrap (z.tmod k) = z.tmod k := by rw [IntKind.wrap_i64]; omega
  have hsm : wrap64 (z.tmod k + k) = z.tmod k + k := by unfold wrap64; omega
  have HE : Hid ((pk14 z k : Int) = if z.tmod k < 0 then z.tmod k + k else z.tmod k) := by show _ = _; unfold pk14; split <;> omega
  rw [HE.out]
  generalize (k : Int) = kk at *
  by_cases hn : z.tmod kk < 0
  · rw [if_pos hn]
    clear HE
    go_enter Try.func9, Try.ntmps9
    go_wp2
    go_ret
    exact ⟨ret_int hsm, rfl⟩
  · rw [if_neg hn]
    clear HE
    go_enter Try.func9, Try.ntmps9
    go_wp2
    go_ret
    exact ⟨rfl, rfl⟩
end Go.Proofs.Ytbfjhgiifmhccaa
