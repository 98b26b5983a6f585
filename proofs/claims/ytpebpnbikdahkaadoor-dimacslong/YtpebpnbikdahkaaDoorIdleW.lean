/-
  dimacs.idle, walked.
-/
import Derived.Test.YtpebpnbikdahkaaDoorWordW
set_option linter.unusedSimpArgs false
set_option linter.unusedVariables false
namespace Go.Proofs.YtpebpnbikdahkaaDoor
open Go Go.RowKit

theorem drop_bl : ∀ {l : List UInt8}, (l.dropWhile isBl).isEmpty = l.all isBl
  | [] => rfl
  | b :: r => by
    cases hb : isBl b
    · simp [hb]
    · simp only [List.dropWhile_cons, hb, if_true, List.all_cons, Bool.true_and]; exact drop_bl
theorem all_drop : ∀ {l : List UInt8}, (l.dropWhile isBl).all isBl = true → l.all isBl = true
  | [], _ => rfl
  | b :: r, h => by
    cases hb : isBl b
    · rw [List.dropWhile_cons, hb] at h
      simp [hb] at h
    · rw [List.dropWhile_cons, hb] at h
      rw [List.all_cons, hb]
      exact all_drop h
theorem trim_idle (l : List UInt8) : (Lib.trimS l [32, 9]).isEmpty = l.all isBl := by
  unfold Lib.trimS
  rw [trim_eq, drop_bl]
  unfold Lib.trimRightS
  rw [show (fun x => ([32, 9] : List UInt8).contains x) = isBl from funext con_bl]
  rw [List.all_reverse]
  cases h : l.all isBl
  · cases h2 : (l.reverse.dropWhile isBl).all isBl
    · rfl
    · have := all_drop h2
      rw [List.all_reverse, h] at this; cases this
  · have h1 : l.reverse.all isBl = true := by rw [List.all_reverse]; exact h
    rw [List.all_eq_true] at h1 ⊢
    intro x hx
    exact h1 x ((List.dropWhile_sublist isBl).subset hx)
theorem pre99 (s : ByteArray) : Lib.hasPrefix s.data.toList [99] = (s.data.toList.head? == some 99) := by
  cases s.data.toList with
  | nil => rfl
  | cons b r => simp [Lib.hasPrefix, List.isPrefixOf]; rw [Bool.eq_iff_iff]; simp; exact eq_comm

set_option maxHeartbeats 1600000 in
theorem idle_any (s : ByteArray) (w : World) (hs : s.size ≤ 281474976710656) :
    Calls Tryd.prog 18 #[.string s] w fun e w' => e = .returned (.bool (idleL s.data.toList)) ∧ Below w.heap.size w w' := by
  have hpp := pre99 s
  have HTr : Hid ((Lib.trimS s.data.toList [32, 9]).isEmpty = s.data.toList.all isBl) := trim_idle _
  have HId : Hid (idleL s.data.toList = ((s.data.toList.head? == some 99) || s.data.toList.all isBl)) := rfl
  cases hq : (s.data.toList.head? == some 99)
  · rw [hq] at hpp HId
    go_enter Tryd.func18, Tryd.ntmps18
    go_wp2_with fail
    refine (Tryd.strings_HasPrefix _ _ _).mono ?_
    rintro e w1 ⟨rfl, rfl⟩
    go_wp2_with fail
    refine (Tryd.strings_Trim_laid _ _ _ (by omega) (by decide) bl_ascii).mono ?_
    rw [show (⟨#[32, 9]⟩ : ByteArray).data.toList = [32, 9] from rfl]
    rintro e w2 ⟨rfl, bel2⟩
    have HB2 : Hid (Below w1.heap.size w1 w2) := bel2
    have hl := ba_list (⟨(Lib.trimS s.data.toList [32, 9]).toArray⟩ : ByteArray)
    rw [mk_list] at hl
    have HEm : Hid ((⟨(Lib.trimS s.data.toList [32, 9]).toArray⟩ : ByteArray).toList.isEmpty = idleL s.data.toList) := by show _ = _; rw [hl, HTr.out, HId.out]; rfl
    clear hl bel2
    generalize (⟨(Lib.trimS s.data.toList [32, 9]).toArray⟩ : ByteArray) = T at *
    go_wp2
    go_ret
    exact ⟨by rw [← HEm.out]; rfl, HB2.out⟩
  · rw [hq] at hpp HId
    go_enter Tryd.func18, Tryd.ntmps18
    go_wp2_with fail
    refine (Tryd.strings_HasPrefix _ _ _).mono ?_
    rintro e w1 ⟨rfl, rfl⟩
    go_wp2
    go_ret
    exact ⟨by rw [HId.out]; rfl, Below.refl _ _⟩

end Go.Proofs.YtpebpnbikdahkaaDoor
