/-
  The document's Plan, walked whole; Plan of the program and of the document for any arguments.
  KEEP: putObj alloc same block size os tape output mono lt own new keep conf rest clr below grown step no yes done
-/
import Derived.Test.YthmejmnbbbiemaaPcW
set_option linter.unusedSimpArgs false
set_option linter.unusedVariables false
namespace Go.Proofs.Ythmejmnbbbiemaa
open Go Go.RowKit

theorem fmC_bounds {b f g : Int} {d : Nat} {p : Int} (hf : fmC b f g d p = true) : (1 ≤ b ∧ b ≤ 1048576) ∧ (1 ≤ f ∧ f ≤ 1048576) ∧ (1 ≤ g ∧ g ≤ 1048576) := by
  unfold fmC at hf
  simp only [Bool.and_eq_true] at hf
  exact ⟨cnB_true.1 hf.1.1.1.1, cnB_true.1 hf.1.1.1.2, cnB_true.1 hf.1.1.2⟩

attribute [local go_sem ↓] append_alias
/-- what Plan says: its error, and its Beats -/
def plE (b f g : Int) (d : Nat) (p n : Int) : Int := if fmC b f g d p = false then 1 else if n < 0 ∨ 1048576 < n then 2 else 0
def plL (b f g : Int) (d : Nat) (p n : Int) : List (Int × Bool) := if fmC b f g d p = false then [] else if n < 0 ∨ 1048576 < n then [] else plF b f g n
theorem plan_any (b f g : Int) (d : Nat) (p u n : Int) (w : World) :
    Calls Try.prog 4 #[.agg #[.int .i64 b, .int .i64 f, .int .i64 g, .float .f64 d, .int .i64 p, .int .i64 u], .int .i64 n] w fun e w' => ∃ v, e = .returned (.tuple #[v, .int .i64 (plE b f g d p n)]) ∧ OwnB w.heap.size w' v (plL b f g d p n) ∧ Below w.heap.size w w' := by
  cases hf : fmC b f g d p
  · have e1 : plE b f g d p n = 1 := by unfold plE; rw [if_pos hf]
    have e2 : plL b f g d p n = [] := by unfold plL; rw [if_pos hf]
    rw [e1, e2]
    exact (plan_bad b f g d p u n w hf).mono fun e w' ⟨h1, h2⟩ => ⟨_, h1, OwnB.nil _ _, h2⟩
  · by_cases hn : n < 0 ∨ 1048576 < n
    · have e1 : plE b f g d p n = 2 := by unfold plE; rw [if_neg (by rw [hf]; simp), if_pos hn]
      have e2 : plL b f g d p n = [] := by unfold plL; rw [if_neg (by rw [hf]; simp), if_pos hn]
      rw [e1, e2]
      exact (plan_far b f g d p u n w hf hn).mono fun e w' ⟨h1, h2⟩ => ⟨_, h1, OwnB.nil _ _, h2⟩
    · have e1 : plE b f g d p n = 0 := by unfold plE; rw [if_neg (by rw [hf]; simp), if_neg hn]
      have e2 : plL b f g d p n = plF b f g n := by unfold plL; rw [if_neg (by rw [hf]; simp), if_neg hn]
      rw [e1, e2]
      exact plan_yes b f g d p u n w hf (by omega) (by omega)
end Go.Proofs.Ythmejmnbbbiemaa
