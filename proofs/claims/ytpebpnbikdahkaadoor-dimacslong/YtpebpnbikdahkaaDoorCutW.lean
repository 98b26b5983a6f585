/-
  strings.Cut at a line feed, walked.
-/
import Derived.Test.YtpebpnbikdahkaaDoorIdleW
set_option linter.unusedSimpArgs false
set_option linter.unusedVariables false
namespace Go.Proofs.YtpebpnbikdahkaaDoor
open Go Go.RowKit

/-- where the first line feed stands: what is ahead of it, and behind -/
theorem cut_at : ∀ l : List UInt8, (Lib.indexByte l 10 = -1 ∧ cutN l = (l, [])) ∨ ∃ k : Nat, Lib.indexByte l 10 = (k : Int) ∧ k < l.length ∧ cutN l = (l.take k, l.drop (k + 1))
  | [] => .inl ⟨rfl, rfl⟩
  | b :: r => by
    unfold Lib.indexByte cutN
    cases hb : b == 10
    · rcases cut_at r with ⟨h1, h2⟩ | ⟨k, h1, h2, h3⟩
      · left; rw [h1, h2]; exact ⟨rfl, rfl⟩
      · right
        refine ⟨k + 1, ?_, by simp; omega, ?_⟩
        · rw [h1, if_neg (by simp), if_neg (by have : ((k : Int) == -1) = false := beq_eq_false_iff_ne.2 (by omega)
                                               rw [this]; simp)]
          omega
        · rw [h3]; simp
    · right
      exact ⟨0, by simp, by simp, by simp⟩

theorem ba_cut (s : ByteArray) (i j : Nat) : (s.extract i j) = ⟨((s.data.toList.drop i).take (j - i)).toArray⟩ := by
  apply ba_extW
  rw [ByteArray.data_extract, Array.toList_extract, List.extract_eq_take_drop]

set_option maxHeartbeats 1600000 in
theorem slCut_any (s : ByteArray) (w : World) (hs : s.size ≤ 281474976710656) :
    Calls Tryd.prog 24 #[.string s, .string ⟨#[10]⟩] w fun e w' => (∃ b, e = .returned (.tuple #[.string ⟨(cutN s.data.toList).1.toArray⟩, .string ⟨(cutN s.data.toList).2.toArray⟩, .bool b])) ∧ Below w.heap.size w w' := by
  have HLn : Hid (s.data.toList.length = s.size) := by show _ = _; cases s; simp [ByteArray.size]
  rcases cut_at s.data.toList with ⟨h1, h2⟩ | ⟨k, h1, h2, h3⟩
  · have HC : Hid (cutN s.data.toList = (s.data.toList, [])) := h2
    have HI := Tryd.stringslite_Index_one s 10 w
    rw [h1] at HI
    have HI' : Hid (Calls Tryd.prog 38 #[.string s, .string ⟨#[10]⟩] w fun e w' => e = .returned (.int .i64 (-1)) ∧ w' = w) := HI
    clear HI h1 h2
    go_enter Tryd.func24, Tryd.ntmps24
    go_wp2_with fail
    refine HI'.out.mono ?_
    rintro e w1 ⟨rfl, rfl⟩
    go_wp2
    go_returns
    rw [HC.out]
    exact ⟨⟨false, by congr 1⟩, Below.refl _ _⟩
  · have HC : Hid (cutN s.data.toList = (s.data.toList.take k, s.data.toList.drop (k + 1))) := h3
    have HI := Tryd.stringslite_Index_one s 10 w
    rw [h1] at HI
    have HI' : Hid (Calls Tryd.prog 38 #[.string s, .string ⟨#[10]⟩] w fun e w' => e = .returned (.int .i64 (k : Int)) ∧ w' = w) := HI
    have hk : k < s.size := by have := HLn.out; omega
    clear HI h1 h2 h3
    go_enter Tryd.func24, Tryd.ntmps24
    go_wp2_with fail
    refine HI'.out.mono ?_
    rintro e w1 ⟨rfl, rfl⟩
    go_wp2_with fail
    go_quiet (fail)
    go_wp2
    go_returns
    rw [HC.out]
    refine ⟨⟨true, ?_⟩, below_drewN _ _⟩
    show Ending.returned (.tuple #[.string (s.extract 0 k), .string (s.extract (k + 1) s.size), .bool true]) = _
    rw [ba_cut, ba_cut, List.drop_zero, List.take_of_length_le (l := s.data.toList.drop (k + 1)) (by rw [List.length_drop, HLn.out]; omega)]
    rfl
set_option maxHeartbeats 1600000 in
theorem cut_any (s : ByteArray) (w : World) (hs : s.size ≤ 281474976710656) :
    Calls Tryd.prog 17 #[.string s, .string ⟨#[10]⟩] w fun e w' => (∃ b, e = .returned (.tuple #[.string ⟨(cutN s.data.toList).1.toArray⟩, .string ⟨(cutN s.data.toList).2.toArray⟩, .bool b])) ∧ Below w.heap.size w w' := by
  have HC : Hid (Calls Tryd.prog 24 #[.string s, .string ⟨#[10]⟩] w fun e w' => (∃ b, e = .returned (.tuple #[.string ⟨(cutN s.data.toList).1.toArray⟩, .string ⟨(cutN s.data.toList).2.toArray⟩, .bool b])) ∧ Below w.heap.size w w') := slCut_any s w hs
  generalize cutN s.data.toList = C at *
  go_enter Tryd.func17, Tryd.ntmps17
  go_wp2_with fail
  refine HC.out.mono ?_
  rintro e w1 ⟨⟨b, rfl⟩, bel1⟩
  have HB : Hid (Below w.heap.size w w1) := bel1
  go_wp2
  go_returns
  exact ⟨⟨b, rfl⟩, HB.out⟩

end Go.Proofs.YtpebpnbikdahkaaDoor
