/-
  PackDecodes, walked.
  KEEP: len below nil form rd mono rdz on app start at new trans refl kept own row ap out step
-/
import Derived.Test.YtaalgilickkggaaPkU
set_option linter.unusedSimpArgs false
set_option linter.unusedVariables false
namespace Go.Proofs.Ytaalgilickkggaa
/-- what is read is no longer than the bytes -/
theorem dec_len (all : List UInt8) : (decB all).1.length ≤ all.length ∧ ∀ x ∈ (decB all).1, x.2.length ≤ all.length := by
  have hx : ∀ l : List Stp, ∀ x ∈ l, (litsB x.2).length ≤ (encB l).length := fun l x hm => by
    induction l with
    | nil => cases hm
    | cons y r ih =>
      have e : encB (y :: r) = stpB y ++ encB r := rfl
      have e2 : (stpB y).length = (litsB y.2).length + 2 := by simp [stpB]
      rw [e, List.length_append]
      rcases List.mem_cons.1 hm with rfl | hm
      · omega
      · have := ih hm; omega
  rcases dec_say all with ⟨l, hs, h1, h2⟩ | h1 | ⟨q, h1, _⟩ | ⟨q, e, _, h1, _⟩
  · rw [h1]
    have h3 := encB_len l
    rw [← h2] at h3
    refine ⟨by show l.length ≤ _; omega, fun x hm => ?_⟩
    have h4 := hx l x hm
    rw [← h2] at h4
    have := litsB_len x.2
    omega
  all_goals (rw [h1]; exact ⟨Nat.zero_le _, fun x hm => by cases hm⟩)
theorem DecP.rdz {w : World} {all : List UInt8} {w' : World} {v : Value} (hb : all.length ≤ 1048576) (h : OwnS w.heap.size w' v (decB all).1) : RdZ w' v (decB all).1 := by
  have hl := dec_len all
  exact h.rdz (by omega) (fun x hx => by have := hl.2 x hx; omega)
namespace packDecodes
open Go Go.RowKit

set_option maxHeartbeats 3200000 in
set_option maxRecDepth 100000 in
theorem walk (s : Value) (T : List UInt8) (w : World) (hr : RdY w s T) (hb : T.length ≤ 1048576) :
    Calls Try.prog 6 #[s] w fun e w' => e = .returned (.bool true) ∧ RowKit.Below w.heap.size w w' := by
  have hl := hr.len
  have HR : Hid (RdY w s T) := hr
  obtain ⟨a, c, rfl, hc, hm, _⟩ := hr.form
  have HD1 : Hid (∀ W v, RdY W v T → Calls Try.prog 10 #[v] W (DecP W (decB T))) := fun W v h => decode_any W v T h (by omega)
  have HD2 : Hid (∀ W v, RdY W v T → Calls Try.prog 18 #[v] W (DecP W (decB T))) := fun W v h => rDecode_any W v T h (by omega)
  have HRz : Hid (∀ {w w' : World} {v : Value}, OwnS w.heap.size w' v (decB T).1 → RdZ w' v (decB T).1) := fun h => DecP.rdz hb h
  clear hr
  generalize decB T = X at *
  obtain ⟨l, E, P⟩ := X
  dsimp only at *
  go_enter Try.func6, Try.ntmps6
  go_wp2_with fail
  refine (copiedY_any _ T _ HR.out).mono ?_
  rintro e w1 ⟨u1, rfl, own1, bel1⟩
  have R1 : Hid (RdY w1 u1 T) := own1.rd hl
  have R0 : Hid (RdY w1 (.slice a T.length c) T) := HR.out.below bel1
  obtain ⟨ua, uc, rfl⟩ := own1.form
  clear own1
  go_wp2_with fail
  refine (HD1.out w1 _ R1.out).mono ?_
  rintro e w2 ⟨v2, rfl, own2, bel2⟩
  dsimp only at *
  have Z2 : Hid (RdZ w2 v2 l) := HRz.out own2
  have R2 : Hid (RdY w2 (.slice a T.length c) T) := R0.out.below bel2
  obtain ⟨va, vc, rfl⟩ := own2.form
  clear own2
  go_wp2_with fail
  refine (copiedY_any _ T _ R2.out).mono ?_
  rintro e w3 ⟨u3, rfl, own3, bel3⟩
  have R3 : Hid (RdY w3 u3 T) := own3.rd hl
  have Z3 : Hid (RdZ w3 (.slice va l.length vc) l) := Z2.out.below bel3
  obtain ⟨xa, xc, rfl⟩ := own3.form
  clear own3
  go_wp2_with fail
  refine (HD2.out w3 _ R3.out).mono ?_
  rintro e w4 ⟨v4, rfl, own4, bel4⟩
  dsimp only at *
  have Z4 : Hid (RdZ w4 v4 l) := HRz.out own4
  have Z5 : Hid (RdZ w4 (.slice va l.length vc) l) := Z3.out.below bel4
  obtain ⟨ya, yc, rfl⟩ := own4.form
  clear own4
  have hE : (E == E) = true := beq_self_eq_true _
  have hP : ((P : Int) == (P : Int)) = true := beq_self_eq_true _
  have HS : Hid (Calls Try.prog 19 #[.slice va l.length vc, .slice ya l.length yc] w4 fun e w' => e = .returned (.bool true) ∧ RowKit.Below w4.heap.size w4 w') := by
    have := sameSteps_any _ _ l l w4 Z5.out Z4.out
    rwa [show (l == l) = true from beq_self_eq_true l] at this
  go_wp2_with (go_at_call 19; refine HS.out.mono ?_; rintro e w7 ⟨rfl, bel7⟩)
  go_ret
  exact ⟨rfl, Below.step (Below.step (Below.step (Below.step bel1 bel2) bel3) bel4) bel7⟩

end packDecodes
end Go.Proofs.Ytaalgilickkggaa
