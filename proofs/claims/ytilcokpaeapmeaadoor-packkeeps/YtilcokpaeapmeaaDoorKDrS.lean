/-
  drat.words' place in a text: what the runes are, step by step: in plain words; drat.plain, walked.
-/
import Derived.Test.YtilcokpaeapmeaaDoorJText
import Derived.Laws.RangeAny
import Derived.WalkKit
import Derived.Handy
set_option linter.unusedSimpArgs false
set_option linter.unusedVariables false
namespace Go.Proofs.YtilcokpaeapmeaaDoor
open Go Go.RowKit

theorem get_bang {s : ByteArray} {k : Nat} (h : k < s.size) : s.get! k = s[k] := by
  simp [ByteArray.get!, getElem!_pos, h]; rfl
/-- what is no ASCII byte begins a run of such -/
theorem decode_span (s : ByteArray) (pos : Nat) (h : pos < s.size) (ha : 128 ≤ (s[pos]'h).toNat) :
    1 ≤ (Utf8.decode s pos).2 ∧ pos + (Utf8.decode s pos).2 ≤ s.size ∧ ∀ j, j < (Utf8.decode s pos).2 → 128 ≤ (s.get! (pos + j)).toNat := by
  have hn : ¬ (s[pos]'h).toNat < 128 := by omega
  have h0 : (s.get! (pos + 0)).toNat = (s[pos]'h).toNat := by rw [get_at s pos h]
  have one : 1 ≤ 1 ∧ pos + 1 ≤ s.size ∧ ∀ j, j < 1 → 128 ≤ (s.get! (pos + j)).toNat := by
    refine ⟨Nat.le_refl _, by omega, fun j hj => ?_⟩
    have hj0 : j = 0 := by omega
    subst hj0
    rw [h0]; exact ha
  simp only [Utf8.decode, get_at s pos h, hn, if_false]
  split
  · rename_i hc
    simp only [Bool.and_eq_true, decide_eq_true_eq, beq_iff_eq] at hc
    split
    · refine ⟨by show 1 ≤ 2; omega, by show pos + 2 ≤ _; omega, fun j hj => ?_⟩
      have hj' : j < 2 := hj
      rcases (show j = 0 ∨ j = 1 by omega) with rfl | rfl
      · rw [h0]; exact ha
      · omega
    · exact one
  · split
    · rename_i hc
      simp only [Bool.and_eq_true, decide_eq_true_eq, beq_iff_eq] at hc
      split
      · refine ⟨by show 1 ≤ 3; omega, by show pos + 3 ≤ _; omega, fun j hj => ?_⟩
        have hj' : j < 3 := hj
        rcases (show j = 0 ∨ j = 1 ∨ j = 2 by omega) with rfl | rfl | rfl
        · rw [h0]; exact ha
        · omega
        · omega
      · exact one
    · split
      · rename_i hc
        simp only [Bool.and_eq_true, decide_eq_true_eq, beq_iff_eq] at hc
        split
        · refine ⟨by show 1 ≤ 4; omega, by show pos + 4 ≤ _; omega, fun j hj => ?_⟩
          have hj' : j < 4 := hj
          rcases (show j = 0 ∨ j = 1 ∨ j = 2 ∨ j = 3 by omega) with rfl | rfl | rfl | rfl
          · rw [h0]; exact ha
          · omega
          · omega
          · omega
        · exact one
      · exact one

section
variable {L : List UInt8} {at' wd : Nat}
theorem hi_wd {b : UInt8} (h : 128 ≤ b.toNat) : wdB b = true := by
  have h1 : b ≠ 32 := by rintro rfl; simp at h
  have h2 : b ≠ 9 := by rintro rfl; simp at h
  have h3 : b ≠ 10 := by rintro rfl; simp at h
  simp [wdB, isBl, h1, h2, h3]
theorem hi_pl {b : UInt8} (h : 128 ≤ b.toNat) : plB b = false := by
  have h2 : b ≠ 9 := by rintro rfl; simp at h
  simp [plB, h2]; omega
theorem endL_in : ∀ (w r : List UInt8) (k : Nat) (beg : Bool), w.all wdB = true → w ≠ [] → endL (w ++ r) k beg = endL r k false
  | [], r, k, beg, _, h0 => absurd rfl h0
  | [b], r, k, beg, h, _ => by
    simp only [List.all_cons, List.all_nil, Bool.and_true, wdB, Bool.and_eq_true, bne_iff_ne, ne_eq] at h
    have : (b == 10) = false := by simpa using h.2
    simp [endL, this]
  | b :: c :: w, r, k, beg, h, _ => by
    have ih := endL_in (c :: w) r k false (by simp only [List.all_cons, Bool.and_eq_true] at h ⊢; exact h.2) (by simp)
    simp only [List.all_cons, wdB, Bool.and_eq_true, bne_iff_ne, ne_eq] at h
    have : (b == 10) = false := by simpa using h.1.2
    rw [List.cons_append, endL, this]
    simpa using ih
end

/-- a rune that may stand in a remark -/
def plR (r : Int) : Bool := r == 9 || (decide (32 ≤ r) && decide (r ≤ 126))
theorem plR_byte (b : UInt8) : plR (b.toNat : Int) = plB b := by
  unfold plR plB
  have h1 : ((b.toNat : Int) == 9) = (b == 9) := by
    rw [Bool.eq_iff_iff]
    simp only [beq_iff_eq]
    constructor
    · intro h; apply UInt8.toNat_inj.1; show b.toNat = 9; omega
    · rintro rfl; rfl
  have h2 : decide ((32 : Int) ≤ b.toNat) = decide (32 ≤ b.toNat) := by rw [Bool.eq_iff_iff]; simp; omega
  have h3 : decide ((b.toNat : Int) ≤ 126) = decide (b.toNat ≤ 126) := by rw [Bool.eq_iff_iff]; simp; omega
  rw [h1, h2, h3]
theorem plR_hi {r : Int} (h : 128 ≤ r) : plR r = false := by
  have : (r == 9) = false := by simp; omega
  simp [plR, this]; omega

set_option maxHeartbeats 800000 in
theorem plain9_any (r : Int) (w : World) : Calls Tryd.prog 63 #[.int .i32 r] w fun e w' => e = .returned (.bool (plR r)) ∧ w' = w := by
  have HP : Hid (plR r = (r == 9 || (decide (32 ≤ r) && decide (r ≤ 126)))) := rfl
  cases h9 : (r == 9)
  · by_cases h1 : 32 ≤ r
    · by_cases h2 : r ≤ 126
      · have HE : Hid (plR r = true) := by show _ = _; rw [HP.out, h9, decide_eq_true h1, decide_eq_true h2]; rfl
        go_enter Tryd.func63, Tryd.ntmps63
        go_wp2
        go_ret
        exact ⟨ret_bool HE.out.symm, rfl⟩
      · have HE : Hid (plR r = false) := by show _ = _; rw [HP.out, h9, decide_eq_true h1, decide_eq_false h2]; rfl
        go_enter Tryd.func63, Tryd.ntmps63
        go_wp2
        go_ret
        exact ⟨ret_bool HE.out.symm, rfl⟩
    · have HE : Hid (plR r = false) := by show _ = _; rw [HP.out, h9, decide_eq_false h1]; rfl
      go_enter Tryd.func63, Tryd.ntmps63
      go_wp2
      go_ret
      exact ⟨ret_bool HE.out.symm, rfl⟩
  · have HE : Hid (plR r = true) := by show _ = _; rw [HP.out, h9]; rfl
    go_enter Tryd.func63, Tryd.ntmps63
    go_wp2
    go_ret
    exact ⟨ret_bool HE.out.symm, rfl⟩

end Go.Proofs.YtilcokpaeapmeaaDoor
