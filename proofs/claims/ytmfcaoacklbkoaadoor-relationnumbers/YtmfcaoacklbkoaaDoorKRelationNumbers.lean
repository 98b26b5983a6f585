/-
  RelationNumbers.
  KEEP: walk lisF LsAns OwnR OwnRs off c0 c1 c2 c3 c4 s0 s1 s2 s3 s4 newS rds lt f t q x len below nil form rd mono on app start at new trans refl kept own row out grown rdz set one more size cell some none letL tail next step go add put del get look no yes e c b k n m box rd22 at22 below22 RdR RdRs
-/
import Derived.Test.YtmfcaoacklbkoaaDoorJRlO
import Derived.Test.YtmfcaoacklbkoaaDoorKRmF
import Derived.Test.YtmfcaoacklbkoaaDoorRnS
set_option linter.unusedSimpArgs false
set_option linter.unusedVariables false
namespace Go.Proofs.YtmfcaoacklbkoaaDoor
open Go Go.RowKit
namespace relationNumbers

set_option maxHeartbeats 3200000 in
set_option maxRecDepth 20000 in
theorem walk (W : World) (hT : OpT W) : Calls Tryd.prog 3 #[] W fun e W' => e = .returned (.bool true) ∧ Below W.heap.size W W' := by
  have HT : Hid (∀ V, Below W.heap.size W V → OpT V) := fun V h => hT.blw h
  have H1 : Hid (∀ V, OpT V → Calls Tryd.prog 8 #[.string ⟨#[97, 97, 32, 98, 98]⟩] V fun e w' => e = .returned (.tuple #[.slice none 0 0, .int .i64 220, .int .i64 3]) ∧ Below V.heap.size V w') := fun V h => by
    have := pRead22 ⟨#[97, 97, 32, 98, 98]⟩ V h (by decide)
    rw [num_a] at this
    exact this
  have H2 : Hid (∀ V, OpT V → Calls Tryd.prog 8 #[.string ⟨#[65]⟩] V fun e w' => e = .returned (.tuple #[.slice none 0 0, .int .i64 230, .int .i64 0]) ∧ Below V.heap.size V w') := fun V h => by
    have := pRead22 ⟨#[65]⟩ V h (by decide)
    rw [num_b] at this
    exact this
  have H3 : Hid (∀ V, OpT V → Calls Tryd.prog 9 #[.string ⟨#[97, 97, 32, 40, 61, 32, 120, 41]⟩] V fun e w' => ∃ v, e = .returned (.tuple #[v, .int .i64 200, .int .i64 6]) ∧ Below V.heap.size V w') := fun V h => by
    have := pReadList22 ⟨#[97, 97, 32, 40, 61, 32, 120, 41]⟩ V h (by decide)
    rw [num_c] at this
    exact this.mono fun e w' ⟨v, q1, q2, q3⟩ => ⟨v, q1, q3⟩
  have H4 : Hid (∀ V, OpT V → Calls Tryd.prog 10 #[.slice (some ⟨V.heap.size, 0, none⟩) 1 1] (V.alloc (.cells #[.slice none 0 0] 26)) fun e w' => e = .returned (.tuple #[.string ⟨#[]⟩, .int .i64 1]) ∧ Below V.heap.size V w') := fun V h => by
    have hb : Below V.heap.size V (V.alloc (.cells #[.slice none 0 0] 26)) := Below.alloc (Below.refl _ _) (Nat.le_refl _) _
    have hr : RdRs (V.alloc (.cells #[.slice none 0 0] 26)) (.slice (some ⟨V.heap.size, 0, none⟩) 1 1) [[]] := by
      refine ⟨by decide, _, 1, rfl, by decide, by unfold maxLen; omega, fun _ => ⟨V.heap.size, 0, rfl, by simp, fun j hj => ?_⟩⟩
      have : j = 0 := by simpa using hj
      subst this
      exact ⟨_, cell_of22 (World.alloc_heap_new V _) 0, RdR.nil22 _⟩
    have := pWrite22 _ [[]] _ hr (h.blw hb) (by decide)
    rw [num_d] at this
    exact this.mono fun e w' ⟨q1, q2⟩ => ⟨q1, hb.trans (q2.mono hb.size)⟩
  clear hT
  go_enter Tryd.func3, Tryd.ntmps3
  go_wp2_with fail
  refine (H1.out _ (HT.out _ (Below.refl _ _))).mono ?_
  rintro e w1 ⟨rfl, b1⟩
  have HB1 : Hid (Below W.heap.size W w1) := b1
  clear b1 H1
  go_wp2_with fail
  refine (H2.out _ (HT.out _ HB1.out)).mono ?_
  rintro e w2 ⟨rfl, b2⟩
  have HB2 : Hid (Below W.heap.size W w2) := HB1.out.trans (b2.mono HB1.out.size)
  clear b2 H2 HB1
  go_wp2_with fail
  refine (H3.out _ (HT.out _ HB2.out)).mono ?_
  rintro e w3 ⟨v3, rfl, b3⟩
  have HB3 : Hid (Below W.heap.size W w3) := HB2.out.trans (b3.mono HB2.out.size)
  clear b3 H3 HB2
  go_wp2_with fail
  refine (H4.out _ (HT.out _ HB3.out)).mono ?_
  rintro e w4 ⟨rfl, b4⟩
  have HB4 : Hid (Below W.heap.size W w4) := HB3.out.trans (b4.mono HB3.out.size)
  clear b4 H4 HB3
  go_wp2
  go_ret
  exact ⟨rfl, HB4.out⟩
end relationNumbers
end Go.Proofs.YtmfcaoacklbkoaaDoor
