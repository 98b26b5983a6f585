/-
  The law ControlReads, walked.
  KEEP: walk below len form out each rd mono nil own row set on app start grown at new
-/
import Derived.Test.YtblkhkfjaggnfaaDoorKCrD
import Derived.Test.YtblkhkfjaggnfaaDoorSmA
import Derived.Test.YtblkhkfjaggnfaaDoorRdN
set_option linter.unusedSimpArgs false
set_option linter.unusedVariables false
namespace Go.Proofs.YtblkhkfjaggnfaaDoor.controlReads
open Go Go.RowKit

set_option maxRecDepth 100000 in
theorem one_read : rdF21 [65, 58, 32, 49] = .ok [(1, [([65], [49])])] := by rfl

set_option maxHeartbeats 3200000 in
set_option maxRecDepth 100000 in
theorem walk (s : ByteArray) (W : World) (hs : s.data.toList.length ≤ 1048576) :
    Calls Tryd.prog 4 #[.string s] W fun e w' => e = .returned (.bool true) ∧ Below W.heap.size W w' := by
  have hsz := size20 s
  have HP : Hid (∀ w, Calls Tryd.prog 8 #[.string s] w fun e w' => RdAns w.heap.size w w' e (rdF21 s.data.toList)) := fun w => read21 s w (by omega)
  have HD : Hid (∀ w, Calls Tryd.prog 9 #[.string s] w fun e w' => RdAns w.heap.size w w' e (rdF21 s.data.toList)) := fun w => rRead21_any s w (by omega)
  have HA : Hid (∀ w w' e, RdAns w.heap.size w w' e (rdF21 s.data.toList) → (∃ c ln, rdF21 s.data.toList = .error (c, ln) ∧ e = .returned (.tuple #[.slice none 0 0, .int .i64 c, .int .i64 ln]) ∧ Below w.heap.size w w') ∨ (∃ v l, rdF21 s.data.toList = .ok l ∧ e = .returned (.tuple #[v, .int .i64 0, .int .i64 0]) ∧ RdSt w' v l ∧ Below w.heap.size w w' ∧ ∃ L, OwnSt w.heap.size w' v L ∧ sgS L = l)) := fun w w' e h => rd_ans (by omega) h
  have H1 : Hid (∀ w, Calls Tryd.prog 8 #[.string ⟨#[65, 58, 32, 49]⟩] w fun e w' => ∃ v c, e = .returned (.tuple #[.slice v 1 c, .int .i64 0, .int .i64 0]) ∧ Below w.heap.size w w') := fun w => by
    refine (read21 ⟨#[65, 58, 32, 49]⟩ w (by decide)).mono fun e w' h => ?_
    have h2 := h
    rw [show (⟨#[65, 58, 32, 49]⟩ : ByteArray).data.toList = [65, 58, 32, 49] from rfl] at h2
    rcases rd_ans (by decide) h2 with ⟨c, ln, q, _⟩ | ⟨v, l, q, he, hr, hb, _⟩
    · rw [one_read] at q; cases q
    · rw [one_read] at q
      injection q with q
      subst q
      obtain ⟨a, c, rfl, _⟩ := hr.form
      exact ⟨a, c, he, hb⟩
  clear hs hsz
  generalize rdF21 s.data.toList = R at *
  go_enter Tryd.func4, Tryd.ntmps4
  go_wp2_with fail
  refine (HP.out _).mono ?_
  intro e w1 h1
  rcases HA.out _ _ _ h1 with ⟨c, ln, hR, rfl, b1⟩ | ⟨v, l, hR, rfl, hr, b1, -⟩
  · have HR : Hid (R = .error (c, ln)) := hR
    have HB1 : Hid (Below W.heap.size W w1) := b1
    clear h1 b1 hR
    go_wp2_with fail
    refine (HD.out _).mono ?_
    intro e w2 h2
    rcases HA.out _ _ _ h2 with ⟨c2, ln2, hR2, rfl, b2⟩ | ⟨v2, l2, hR2, rfl, hr2, b2, -⟩
    · have hp : (c2, ln2) = (c, ln) := by rw [HR.out] at hR2; injection hR2 with q; exact q.symm
      injection hp with q1 q2
      subst q1; subst q2
      have HB2 : Hid (Below W.heap.size W w2) := HB1.out.trans (b2.mono HB1.out.size)
      clear h2 hR2 b2
      go_wp2_with fail
      refine (H1.out _).mono ?_
      rintro e w3 ⟨v3, c3, rfl, b3⟩
      have HB3 : Hid (Below W.heap.size W w3) := HB2.out.trans (b3.mono HB2.out.size)
      have HSm : Hid (∀ w, Calls Tryd.prog 10 #[.slice none 0 0, .slice none 0 0, .bool true] w fun e w' => e = .returned (.bool true) ∧ Below w.heap.size w w') := fun w => same21 _ _ [] [] true w (RdSt.nil w) (RdSt.nil w) (SmL.refl _ _)
      clear b3
      go_wp2_with (go_at_call 10; refine (HSm.out _).mono ?_; rintro e w4 ⟨rfl, b4⟩; have HB4 : Hid (Below W.heap.size W w4) := HB3.out.trans (b4.mono HB3.out.size); clear b4)
      all_goals
        go_ret
        exact ⟨ret_bool (by simp), HB4.out⟩
    · rw [HR.out] at hR2; cases hR2
  · have HR : Hid (R = .ok l) := hR
    have HB1 : Hid (Below W.heap.size W w1) := b1
    have HR1 : Hid (RdSt w1 v l) := hr
    obtain ⟨a1, c1, rfl, -⟩ := hr.form
    clear h1 b1 hR hr
    go_wp2_with fail
    refine (HD.out _).mono ?_
    intro e w2 h2
    rcases HA.out _ _ _ h2 with ⟨c2, ln2, hR2, rfl, b2⟩ | ⟨v2, l2, hR2, rfl, hr2, b2, -⟩
    · rw [HR.out] at hR2; cases hR2
    · have hl2 : l2 = l := by rw [HR.out] at hR2; injection hR2 with q; exact q.symm
      subst hl2
      have HB2 : Hid (Below W.heap.size W w2) := HB1.out.trans (b2.mono HB1.out.size)
      have HRa : Hid (RdSt w2 (.slice a1 l2.length c1) l2) := HR1.out.below b2
      have HRb : Hid (RdSt w2 v2 l2) := hr2
      obtain ⟨a2, c2, rfl, -⟩ := hr2.form
      clear h2 hR2 b2 hr2
      go_wp2_with fail
      refine (H1.out _).mono ?_
      rintro e w3 ⟨v3, c3, rfl, b3⟩
      have HB3 : Hid (Below W.heap.size W w3) := HB2.out.trans (b3.mono HB2.out.size)
      have HSm : Hid (∀ w, Below w3.heap.size w3 w → Calls Tryd.prog 10 #[.slice a1 l2.length c1, .slice a2 l2.length c2, .bool true] w fun e w' => e = .returned (.bool true) ∧ Below w.heap.size w w') := fun w hb => same21 _ _ l2 l2 true w (HRa.out.below (b3.trans (hb.mono b3.size))) (HRb.out.below (b3.trans (hb.mono b3.size))) (SmL.refl _ _)
      have HB3r : Hid (Below w3.heap.size w3 w3) := Below.refl _ _
      clear b3
      go_wp2_with (go_at_call 10; refine (HSm.out _ HB3r.out).mono ?_; rintro e w4 ⟨rfl, b4⟩; have HB4 : Hid (Below W.heap.size W w4) := HB3.out.trans (b4.mono HB3.out.size); clear b4)
      all_goals
        go_ret
        exact ⟨ret_bool (by simp), HB4.out⟩

end Go.Proofs.YtblkhkfjaggnfaaDoor.controlReads
