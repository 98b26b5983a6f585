/-
  version.read, Legal, Cut, walked.
-/
import Derived.Test.YtmfcaoacklbkoaaDoorVsS
import Derived.Deep.CutRange
import Derived.Deep.RegionHeld
set_option linter.unusedSimpArgs false
set_option linter.unusedVariables false
namespace Go.Proofs.YtmfcaoacklbkoaaDoor
open Go Go.RowKit

theorem ba20_ext {s : ByteArray} (h : s.data.toList = []) : s = ⟨#[]⟩ := by cases s; simp at h; subst h; rfl
set_option maxHeartbeats 1600000 in
theorem slCut20_no (s : ByteArray) (w : World) (h : iC s < 0) :
    Calls Tryd.prog 66 #[.string s, .string ⟨#[58]⟩] w fun e w' => e = .returned (.tuple #[.string s, .string ⟨#[]⟩, .bool false]) ∧ w' = w := by
  have HI := Tryd.stringslite_Index_one s 58 w
  have h1 : Lib.indexByte s.data.toList 58 = -1 := by have := (iC_le s).1; unfold iC at *; omega
  rw [h1] at HI
  have HI' : Hid (Calls Tryd.prog 70 #[.string s, .string ⟨#[58]⟩] w fun e w' => e = .returned (.int .i64 (-1)) ∧ w' = w) := HI
  clear HI h1 h
  go_enter Tryd.func66, Tryd.ntmps66
  go_wp2_with fail
  refine HI'.out.mono ?_
  rintro e w1 ⟨rfl, rfl⟩
  go_wp2
  go_returns
  exact ⟨rfl, rfl⟩
set_option maxHeartbeats 1600000 in
theorem slCut20_yes (s : ByteArray) (w : World) (k : Nat) (h : iC s = k) (hs : s.size ≤ 281474976710656) :
    Calls Tryd.prog 66 #[.string s, .string ⟨#[58]⟩] w fun e w' => e = .returned (.tuple #[.string (s.extract 0 k), .string (s.extract (k + 1) s.size), .bool true]) ∧ Below w.heap.size w w' := by
  have HI := Tryd.stringslite_Index_one s 58 w
  have hk : k < s.size := by have := (iC_le s).2; omega
  have h1 : Lib.indexByte s.data.toList 58 = k := h
  rw [h1] at HI
  have HI' : Hid (Calls Tryd.prog 70 #[.string s, .string ⟨#[58]⟩] w fun e w' => e = .returned (.int .i64 (k : Int)) ∧ w' = w) := HI
  clear HI h1 h
  go_enter Tryd.func66, Tryd.ntmps66
  go_wp2_with fail
  refine HI'.out.mono ?_
  rintro e w1 ⟨rfl, rfl⟩
  go_wp2_with fail
  go_quiet (fail)
  go_wp2
  go_returns
  exact ⟨rfl, rfl, rfl, rfl, Nat.le_refl _, fun _ _ => rfl⟩
set_option maxHeartbeats 1600000 in
theorem cut20_no (s : ByteArray) (w : World) (h : iC s < 0) :
    Calls Tryd.prog 57 #[.string s, .string ⟨#[58]⟩] w fun e w' => e = .returned (.tuple #[.string s, .string ⟨#[]⟩, .bool false]) ∧ w' = w := by
  have HC : Hid (Calls Tryd.prog 66 #[.string s, .string ⟨#[58]⟩] w fun e w' => e = .returned (.tuple #[.string s, .string ⟨#[]⟩, .bool false]) ∧ w' = w) := slCut20_no s w h
  go_enter Tryd.func57, Tryd.ntmps57
  go_wp2_with fail
  refine HC.out.mono ?_
  rintro e w1 ⟨rfl, rfl⟩
  go_wp2
  go_returns
  exact ⟨rfl, rfl⟩
set_option maxHeartbeats 1600000 in
theorem cut20_yes (s : ByteArray) (w : World) (k : Nat) (h : iC s = k) (hs : s.size ≤ 281474976710656) :
    Calls Tryd.prog 57 #[.string s, .string ⟨#[58]⟩] w fun e w' => e = .returned (.tuple #[.string (s.extract 0 k), .string (s.extract (k + 1) s.size), .bool true]) ∧ Below w.heap.size w w' := by
  have HC : Hid (Calls Tryd.prog 66 #[.string s, .string ⟨#[58]⟩] w fun e w' => e = .returned (.tuple #[.string (s.extract 0 k), .string (s.extract (k + 1) s.size), .bool true]) ∧ Below w.heap.size w w') := slCut20_yes s w k h hs
  generalize s.extract 0 k = s1 at *
  generalize s.extract (k + 1) s.size = s2 at *
  go_enter Tryd.func57, Tryd.ntmps57
  go_wp2_with fail
  refine HC.out.mono ?_
  rintro e w1 ⟨rfl, bel1⟩
  have HB : Hid (Below w.heap.size w w1) := bel1
  go_wp2
  go_returns
  exact ⟨rfl, HB.out⟩

end Go.Proofs.YtmfcaoacklbkoaaDoor
