/-
  dimacs.number, walked.
-/
import Derived.Test.YtlkbbbbclmffjaaGreatDoorJText
import Derived.Test.YtlkbbbbclmffjaaGreatDoorShelf
import Derived.Deep.LoopGhost
import Derived.BigQuiet
import Derived.Lib.Hide
import Derived.Handy
import Derived.Deep.CutRange
import Derived.Deep.QuietTactic
set_option linter.unusedSimpArgs false
set_option linter.unusedVariables false
namespace Go.Proofs.YtlkbbbbclmffjaaGreatDoor
open Go Go.RowKit

theorem ba_list (s : ByteArray) : s.toList = s.data.toList := ByteArray.toList_eq s
theorem ba_at {s : ByteArray} {k : Nat} (h : k < s.size) : s.data.toList[k]? = some (s[k]'h) := by
  cases s; simp [ByteArray.getElem_eq_getElem_data]
theorem ba_tail (s : ByteArray) : (s.extract 1 s.size).data.toList = s.data.toList.tail := by
  rw [ByteArray.data_extract, Array.toList_extract]
  have : s.data.toList.length = s.size := by cases s; simp [ByteArray.size]
  rw [List.extract_eq_take_drop, List.drop_one]
  exact List.take_of_length_le (by rw [List.length_tail]; omega)
theorem digs_at {l : List UInt8} {k : Nat} {b : UInt8} (hb : l[k]? = some b) : (l.take (k + 1)) = l.take k ++ [b] := by
  rw [List.take_add_one, hb]; rfl
theorem digs_no {l : List UInt8} {k : Nat} {b : UInt8} (hb : l[k]? = some b) (h : isDg b = false) : digs l = none := by
  have : l.all isDg = false := List.all_eq_false.2 ⟨b, List.mem_of_getElem? hb, by simp [h]⟩
  unfold digs; rw [this]; simp
theorem pre45 (s : ByteArray) : Lib.hasPrefix s.data.toList [45] = (s.data.toList.head? == some 45) := by
  cases s.data.toList with
  | nil => rfl
  | cons b r => simp [Lib.hasPrefix, List.isPrefixOf]; rw [Bool.eq_iff_iff]; simp; exact eq_comm
theorem digV_all : ∀ (l : List UInt8) (a : Int), 0 ≤ a → a ≤ 2147483648 → l.all isDg = true → 0 ≤ l.foldl digV a ∧ l.foldl digV a ≤ 2147483648
  | [], a, h0, h1, _ => ⟨h0, h1⟩
  | b :: r, a, h0, h1, h => by
    simp only [List.all_cons, Bool.and_eq_true] at h
    obtain ⟨q0, q1⟩ := digV_range h0 h.1
    exact digV_all r _ q0 q1 h.2
theorem minI (a b : Int) : min a b = if a ≤ b then a else b := by rfl

set_option maxRecDepth 100000 in
set_option maxHeartbeats 1600000 in
theorem number_plain (s : ByteArray) (w : World) (hs : s.size ≤ 281474976710656) (hp : (s.data.toList.head? == some 45) = false) :
    Calls Tryz.prog 59 #[.string s] w fun e w' => e = .returned (.tuple #[.int .i64 ((numW s.data.toList).getD 0), .bool (numW s.data.toList).isSome]) ∧ Below w.heap.size w w' := by
  have HN : Hid (numW s.data.toList = if s.data.toList == [48] then some 0 else digs s.data.toList) := by show _ = _; unfold numW; rw [hp]; rfl
  have hpp := pre45 s
  rw [hp] at hpp
  have HL := ba_list s
  cases h48 : s.data.toList == [48]
  case true =>
    have HE : Hid (numW s.data.toList = some 0) := by show _ = _; rw [HN.out, h48]; rfl
    have hq : (s.toList == [48]) = true := by rw [HL]; exact h48
    clear HL h48 hp
    go_enter Tryz.func59, Tryz.ntmps59
    go_wp2_with fail
    refine (Tryz.strings_HasPrefix _ _ _).mono ?_
    rintro e w1 ⟨rfl, rfl⟩
    go_wp2
    go_returns
    rw [HE.out]
    exact ⟨rfl, Below.refl _ _⟩
  have HE : Hid (numW s.data.toList = digs s.data.toList) := by show _ = _; rw [HN.out, h48]; rfl
  have hq : (s.toList == [48]) = false := by rw [HL]; exact h48
  have HPos : Hid (s.data.toList.length = s.size) := by show _ = _; cases s; simp [ByteArray.size]
  by_cases h0 : 0 < s.size
  case neg =>
    have HD : Hid (digs s.data.toList = none) := by
      show _ = _
      have : s.data.toList = [] := List.length_eq_zero_iff.1 (by have := HPos.out; omega)
      rw [this]; rfl
    have hem : s.toList.isEmpty = true := by
      rw [HL, List.isEmpty_iff]; exact List.length_eq_zero_iff.1 (by have := HPos.out; omega)
    clear h48 hp HN HL
    go_enter Tryz.func59, Tryz.ntmps59
    go_wp2_with fail
    refine (Tryz.strings_HasPrefix _ _ _).mono ?_
    rintro e w1 ⟨rfl, rfl⟩
    go_wp2
    go_returns
    rw [HE.out, HD.out]
    exact ⟨rfl, Below.refl _ _⟩
  have hem : s.toList.isEmpty = false := by
    rw [HL]
    cases hl : s.data.toList with
    | nil => have := HPos.out; rw [hl] at this; simp at this; omega
    | cons b r => rfl
  have HA : Hid (∀ k (h : k < s.size), s.data.toList[k]? = some (s[k]'h)) := fun k h => ba_at h
  clear h48 hp HN HL
  cases hz : ((s[0].toNat : Int) == 48)
  case true =>
    have HD : Hid (digs s.data.toList = none) := by
      show _ = _
      have h1 := HA.out 0 h0
      have h2 : s[0] = 48 := by have := beq_iff_eq.1 hz; apply UInt8.toNat_inj.1; show s[0].toNat = 48; omega
      rw [h2] at h1
      rw [← List.head?_eq_getElem?] at h1
      unfold digs; rw [h1]; simp
    go_enter Tryz.func59, Tryz.ntmps59
    go_wp2_with fail
    refine (Tryz.strings_HasPrefix _ _ _).mono ?_
    rintro e w1 ⟨rfl, rfl⟩
    go_wp2
    go_returns
    rw [HE.out, HD.out]
    exact ⟨rfl, Below.refl _ _⟩
  have HD : Hid (s.data.toList.all isDg = true → digs s.data.toList = some (s.data.toList.foldl digV 0)) := by
    intro h
    have h1 := HA.out 0 h0
    have h2 : s[0] ≠ 48 := by intro e; rw [e] at hz; revert hz; decide
    have h3 : (s.data.toList.head? != some 48) = true := by rw [List.head?_eq_getElem?, h1]; simpa using h2
    have h4 : s.data.toList.isEmpty = false := by cases hl : s.data.toList with
      | nil => rw [hl] at h1; simp at h1
      | cons b r => rfl
    unfold digs; rw [h3, h4, h]; rfl
  go_enter Tryz.func59, Tryz.ntmps59
  go_wp2_with fail
  refine (Tryz.strings_HasPrefix _ _ _).mono ?_
  rintro e w1 ⟨rfl, rfl⟩
  go_wp2
  go_loopg [4, 24] s.size (fun g n i wr => ∃ (k : Nat) (z : Int), k + g = s.size ∧ i = .int .i64 k ∧ n = .int .i64 z ∧ Hid (z = (s.data.toList.take k).foldl digV 0) ∧ Hid ((s.data.toList.take k).all isDg = true) ∧ 0 ≤ z ∧ z ≤ 2147483648 ∧ wr = w1)
  case atStart => exact ⟨0, 0, by omega, rfl, rfl, rfl, rfl, by omega, by omega, rfl⟩
  case round =>
    obtain ⟨k, z, hk, rfl, rfl, HZ, HAl, hz0, hz1, rfl⟩ := hrel
    have HK : Hid (k + gk = s.size) := hk
    by_cases hlt : k < s.size
    · have hat := HA.out k hlt
      have HT : Hid (s.data.toList.take (k + 1) = s.data.toList.take k ++ [s[k]]) := digs_at hat
      have hb := (s[k]).toNat_lt
      have HNo : Hid (isDg s[k] = false → digs s.data.toList = none) := fun h => digs_no hat h
      clear hk hat
      rcases (show (s[k].toNat : Int) < 48 ∨ (48 ≤ (s[k].toNat : Int) ∧ 57 < (s[k].toNat : Int)) ∨ (48 ≤ (s[k].toNat : Int) ∧ (s[k].toNat : Int) ≤ 57) by omega) with hc | hc | hc
      · have HD' : Hid (digs s.data.toList = none) := HNo.out (by unfold isDg; rw [decide_eq_false (by omega)]; rfl)
        go_wp2
        go_returns
        rw [HE.out, HD'.out]
        exact ⟨rfl, Below.refl _ _⟩
      · have HD' : Hid (digs s.data.toList = none) := HNo.out (by unfold isDg; rw [decide_eq_false (by omega : ¬ s[k].toNat ≤ 57)]; simp)
        have hc1 : ¬ (s[k].toNat : Int) < 48 := by omega
        have hc2 := hc.2
        clear hc
        go_wp2
        go_returns
        rw [HE.out, HD'.out]
        exact ⟨rfl, Below.refl _ _⟩
      · have HDg : Hid (isDg s[k] = true) := by show _ = _; unfold isDg; rw [decide_eq_true (by omega), decide_eq_true (by omega)]; rfl
        have hc1 : ¬ (s[k].toNat : Int) < 48 := by omega
        have hc2 : ¬ 57 < (s[k].toNat : Int) := by omega
        have HV : Hid (min (10 * z + ((s[k].toNat : Int) - 48)) 2147483648 = digV z s[k]) := rfl
        go_wp2
        go_roundg (gk - 1)
        case measure => have := HK.out; omega
        case rel =>
          have hr := digV_range hz0 HDg.out
          exact ⟨k + 1, digV z s[k], by have := HK.out; omega, by go_num, rfl, (by show _ = _; rw [HT.out, List.foldl_append, ← HZ.out]; rfl), (by show _ = _; rw [HT.out, List.all_append, HAl.out]; simp [HDg.out]), hr.1, hr.2, rfl⟩
    · obtain rfl : k = s.size := by omega
      have HEnd : Hid (numW s.data.toList = some z) := by
        show _ = _
        have hl : s.data.toList.take s.size = s.data.toList := List.take_of_length_le (by have := HPos.out; omega)
        rw [HE.out, HD.out (by rw [← hl]; exact HAl.out), HZ.out, hl]
      clear hk
      go_wp2
      go_returns
      rw [HEnd.out]
      exact ⟨rfl, Below.refl _ _⟩

set_option maxRecDepth 100000 in
set_option maxHeartbeats 1600000 in
theorem number_minus (s : ByteArray) (w : World) (hs : s.size ≤ 281474976710656) (hp : (s.data.toList.head? == some 45) = true) :
    Calls Tryz.prog 59 #[.string s] w fun e w' => e = .returned (.tuple #[.int .i64 ((numW s.data.toList).getD 0), .bool (numW s.data.toList).isSome]) ∧ Below w.heap.size w w' := by
  have HN : Hid (numW s.data.toList = (digs s.data.toList.tail).map (fun z => -z)) := by show _ = _; unfold numW; rw [hp]; rfl
  have hpp := pre45 s
  rw [hp] at hpp
  have HPos : Hid (s.data.toList.length = s.size) := by show _ = _; cases s; simp [ByteArray.size]
  have h1 : 1 ≤ s.size := by
    have := HPos.out
    cases hl : s.data.toList with
    | nil => rw [hl] at hp; simp at hp
    | cons b r => rw [hl] at this; simp at this; omega
  clear hp
  go_enter Tryz.func59, Tryz.ntmps59
  go_wp2_with fail
  refine (Tryz.strings_HasPrefix _ _ _).mono ?_
  rintro e w1 ⟨rfl, rfl⟩
  go_upto_region 4 with fail
  go_quiet (fail)
  have HX : Hid ((s.extract 1 s.size).data.toList = s.data.toList.tail) := by
    show _ = _
    exact ba_tail s
  have hx1 : (s.extract 1 s.size).size ≤ 281474976710656 := by rw [ByteArray.size_extract]; omega
  have HBel : Hid (Below w1.heap.size w1 (w1.drewN nq)) := below_drewN _ _
  have HE : Hid (numW s.data.toList = (digs (s.extract 1 s.size).data.toList).map (fun z => -z)) := by show _ = _; rw [HX.out]; exact HN.out
  clear HN HX hpp HPos
  generalize s.extract 1 s.size = s1 at *
  generalize w1.drewN nq = w2 at *
  have HL := ba_list s1
  have HPos : Hid (s1.data.toList.length = s1.size) := by show _ = _; cases s1; simp [ByteArray.size]
  by_cases h0 : 0 < s1.size
  case neg =>
    have HD : Hid (digs s1.data.toList = none) := by
      show _ = _
      have : s1.data.toList = [] := List.length_eq_zero_iff.1 (by have := HPos.out; omega)
      rw [this]; rfl
    have hem : s1.toList.isEmpty = true := by
      rw [HL, List.isEmpty_iff]; exact List.length_eq_zero_iff.1 (by have := HPos.out; omega)
    clear HL
    go_wp2
    go_returns
    rw [HE.out, HD.out]
    exact ⟨rfl, HBel.out⟩
  have hem : s1.toList.isEmpty = false := by
    rw [HL]
    cases hl : s1.data.toList with
    | nil => have := HPos.out; rw [hl] at this; simp at this; omega
    | cons b r => rfl
  have HA : Hid (∀ k (h : k < s1.size), s1.data.toList[k]? = some (s1[k]'h)) := fun k h => ba_at h
  clear HL
  cases hz : ((s1[0].toNat : Int) == 48)
  case true =>
    have HD : Hid (digs s1.data.toList = none) := by
      show _ = _
      have h1 := HA.out 0 h0
      have h2 : s1[0] = 48 := by have := beq_iff_eq.1 hz; apply UInt8.toNat_inj.1; show s1[0].toNat = 48; omega
      rw [h2] at h1
      rw [← List.head?_eq_getElem?] at h1
      unfold digs; rw [h1]; simp
    go_wp2
    go_returns
    rw [HE.out, HD.out]
    exact ⟨rfl, HBel.out⟩
  have HD : Hid (s1.data.toList.all isDg = true → digs s1.data.toList = some (s1.data.toList.foldl digV 0)) := by
    intro h
    have h1 := HA.out 0 h0
    have h2 : s1[0] ≠ 48 := by intro e; rw [e] at hz; revert hz; decide
    have h3 : (s1.data.toList.head? != some 48) = true := by rw [List.head?_eq_getElem?, h1]; simpa using h2
    have h4 : s1.data.toList.isEmpty = false := by cases hl : s1.data.toList with
      | nil => rw [hl] at h1; simp at h1
      | cons b r => rfl
    unfold digs; rw [h3, h4, h]; rfl
  go_wp2
  go_loopg [4, 24] s1.size (fun g n i wr => ∃ (k : Nat) (z : Int), k + g = s1.size ∧ i = .int .i64 k ∧ n = .int .i64 z ∧ Hid (z = (s1.data.toList.take k).foldl digV 0) ∧ Hid ((s1.data.toList.take k).all isDg = true) ∧ 0 ≤ z ∧ z ≤ 2147483648 ∧ wr = w2)
  case atStart => exact ⟨0, 0, by omega, rfl, rfl, rfl, rfl, by omega, by omega, rfl⟩
  case round =>
    obtain ⟨k, z, hk, rfl, rfl, HZ, HAl, hz0, hz1, rfl⟩ := hrel
    have HK : Hid (k + gk = s1.size) := hk
    by_cases hlt : k < s1.size
    · have hat := HA.out k hlt
      have HT : Hid (s1.data.toList.take (k + 1) = s1.data.toList.take k ++ [s1[k]]) := digs_at hat
      have hb := (s1[k]).toNat_lt
      have HNo : Hid (isDg s1[k] = false → digs s1.data.toList = none) := fun h => digs_no hat h
      clear hk hat
      rcases (show (s1[k].toNat : Int) < 48 ∨ (48 ≤ (s1[k].toNat : Int) ∧ 57 < (s1[k].toNat : Int)) ∨ (48 ≤ (s1[k].toNat : Int) ∧ (s1[k].toNat : Int) ≤ 57) by omega) with hc | hc | hc
      · have HD' : Hid (digs s1.data.toList = none) := HNo.out (by unfold isDg; rw [decide_eq_false (by omega)]; rfl)
        go_wp2
        go_returns
        rw [HE.out, HD'.out]
        exact ⟨rfl, HBel.out⟩
      · have HD' : Hid (digs s1.data.toList = none) := HNo.out (by unfold isDg; rw [decide_eq_false (by omega : ¬ s1[k].toNat ≤ 57)]; simp)
        have hc1 : ¬ (s1[k].toNat : Int) < 48 := by omega
        have hc2 := hc.2
        clear hc
        go_wp2
        go_returns
        rw [HE.out, HD'.out]
        exact ⟨rfl, HBel.out⟩
      · have HDg : Hid (isDg s1[k] = true) := by show _ = _; unfold isDg; rw [decide_eq_true (by omega), decide_eq_true (by omega)]; rfl
        have hc1 : ¬ (s1[k].toNat : Int) < 48 := by omega
        have hc2 : ¬ 57 < (s1[k].toNat : Int) := by omega
        have HV : Hid (min (10 * z + ((s1[k].toNat : Int) - 48)) 2147483648 = digV z s1[k]) := rfl
        go_wp2
        go_roundg (gk - 1)
        case measure => have := HK.out; omega
        case rel =>
          have hr := digV_range hz0 HDg.out
          exact ⟨k + 1, digV z s1[k], by have := HK.out; omega, by go_num, rfl, (by show _ = _; rw [HT.out, List.foldl_append, ← HZ.out]; rfl), (by show _ = _; rw [HT.out, List.all_append, HAl.out]; simp [HDg.out]), hr.1, hr.2, rfl⟩
    · obtain rfl : k = s1.size := by omega
      have HEnd : Hid (numW s.data.toList = some (-z)) := by
        show _ = _
        have hl : s1.data.toList.take s1.size = s1.data.toList := List.take_of_length_le (by have := HPos.out; omega)
        rw [HE.out, HD.out (by rw [← hl]; exact HAl.out), HZ.out, hl]; rfl
      clear hk
      go_wp2
      go_returns
      rw [HEnd.out]
      exact ⟨rfl, HBel.out⟩

/-- dimacs.number: the number that the word is, if it is one -/
theorem number_any (s : ByteArray) (w : World) (hs : s.size ≤ 281474976710656) :
    Calls Tryz.prog 59 #[.string s] w fun e w' => e = .returned (.tuple #[.int .i64 ((numW s.data.toList).getD 0), .bool (numW s.data.toList).isSome]) ∧ Below w.heap.size w w' := by
  cases hp : s.data.toList.head? == some 45
  · exact number_plain s w hs hp
  · exact number_minus s w hs hp

end Go.Proofs.YtlkbbbbclmffjaaGreatDoor
