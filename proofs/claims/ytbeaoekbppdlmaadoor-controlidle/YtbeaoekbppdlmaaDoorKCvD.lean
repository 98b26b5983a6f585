/-
  control: folded, strings.Split at a line feed, strings.Cut at a byte, isValue, walked.
  KEEP: len below nil form rd mono on app start at new trans refl kept own row out grown rdz set one more lt size cell some none letL tail next step go add put del get look no yes e c f b k n m box Ltr
-/
import Derived.Test.YtbeaoekbppdlmaaDoorJCvA
import Derived.Test.YtbeaoekbppdlmaaDoorKCtQ
import Derived.Lib.ConvBytes
set_option linter.unusedSimpArgs false
set_option linter.unusedVariables false
namespace Go.Proofs.YtbeaoekbppdlmaaDoor
open Go Go.RowKit

/-- the row that []byte of a text makes -/
def FdC (w : World) (g c : Nat) (xs : List UInt8) : Prop :=
  ∃ cur, w.heap[g]? = some (.cells cur 5 (c, c + 1)) ∧ cur.size = c ∧ xs.length ≤ c ∧ ∀ j, j < xs.length → cur[j]? = some (.int .u8 (xs.getD j 0).toNat)
theorem FdC.lt {w : World} {g c : Nat} {xs : List UInt8} (h : FdC w g c xs) : g < w.heap.size := by obtain ⟨cur, h1, _⟩ := h; exact (Array.getElem?_eq_some_iff.1 h1).1
theorem FdC.cell {w : World} {g c : Nat} {xs : List UInt8} (h : FdC w g c xs) {j : Nat} (hj : j < xs.length) : w.cell? ⟨g, j, none⟩ = some (.int .u8 (xs.getD j 0).toNat) := by
  obtain ⟨cur, h1, _, _, h4⟩ := h
  simp [World.cell?, h1, h4 j hj]
theorem FdC.fz {w : World} {g c : Nat} {xs : List UInt8} (h : FdC w g c xs) {j : Nat} (hj : j < xs.length) : w.frozen? ⟨g, j, none⟩ = false := by
  obtain ⟨cur, h1, _, h3, _⟩ := h
  simp [World.frozen?, h1]
  omega
theorem FdC.set {w : World} {g c : Nat} {xs : List UInt8} (h : FdC w g c xs) {k : Nat} (hk : k < xs.length) (b : UInt8) : FdC (w.setCell ⟨g, k, none⟩ (.int .u8 b.toNat)) g c (xs.set k b) := by
  obtain ⟨cur, h1, h2, h3, h4⟩ := h
  have hlt := (Array.getElem?_eq_some_iff.1 h1).1
  refine ⟨cur.setIfInBounds k (.int .u8 b.toNat), set_heap21 h1 k _, by simp [h2], by simp; omega, fun j hj => ?_⟩
  have hj2 : j < xs.length := by simpa using hj
  by_cases e : j = k
  · subst e
    rw [Array.getElem?_setIfInBounds_self_of_lt (by omega)]
    simp [List.getD_eq_getElem?_getD, hj2]
  · rw [Array.getElem?_setIfInBounds_ne (Ne.symm e), h4 j hj2]
    simp [List.getD_eq_getElem?_getD, List.getElem?_set, Ne.symm e]
theorem fdc_new (w : World) (s : ByteArray) : FdC (Lib.bytesWorld w 5 s) w.heap.size (grownCap w s.size 0 5) s.data.toList := by
  have hc : (Lib.bytesCells w 5 s).size = grownCap w s.size 0 5 := by
    have := grownCap_ge w s.size 0 5
    simp [Lib.bytesCells]
    show s.size + _ = _
    omega
  refine ⟨Lib.bytesCells w 5 s, by rw [Lib.bytesWorld_at_new, hc], hc, by rw [size20]; exact grownCap_ge w s.size 0 5, fun j hj => ?_⟩
  have h := Lib.bytesWorld_cell w 5 s j (by rw [size20] at hj; exact hj)
  simp only [World.cell?, Lib.bytesWorld_at_new] at h
  simpa using h
theorem str21 (w : World) (s : ByteArray) (hs : s.size ≤ 70368744177664) : ∃ c w', (convert 9 47 (.string s)).run Tryd.prog w = .ok (.slice (some ⟨w.heap.size, 0, none⟩) s.size c) w' ∧ FdC w' w.heap.size c s.data.toList ∧ Below w.heap.size w w' ∧ s.size ≤ c ∧ c ≤ maxLen := by
  have hrun := Lib.run_convert_string_bytes (P := Tryd.prog) w 9 47 5 s Tryd.underlying9 Tryd.underlying47 Tryd.underlying5
  have hsz := Lib.bytesWorld_size w 5 s
  exact ⟨_, _, hrun, fdc_new w s, ⟨rfl, rfl, rfl, by omega, fun k hk => Lib.bytesWorld_at_old w 5 _ k hk⟩, grownCap_ge w s.size 0 5, grownCap_le_maxLen w s.size 0 5 (by unfold maxLen; omega)⟩
theorem conv21 {w : World} {g c : Nat} {xs : List UInt8} (h : FdC w g c xs) : (convert 47 9 (.slice (some ⟨g, 0, none⟩) xs.length c)).run Tryd.prog w = .ok (.string ⟨xs.toArray⟩) w := by
  refine run_convert_bytes_back (P := Tryd.prog) w 47 9 5 ⟨g, 0, none⟩ c xs Tryd.underlying47 Tryd.underlying5 Tryd.underlying9 (fun j hj => ?_)
  have hadd : (⟨g, 0, none⟩ : Addr).add j = ⟨g, j, none⟩ := by rw [Addr.add_lit, Nat.zero_add]
  rw [hadd, h.cell hj]
  simp [List.getD_eq_getElem?_getD, hj]
/-- the row, where k of its bytes are folded -/
def fdK (l : List UInt8) (k : Nat) : List UInt8 := (fdL l).take k ++ l.drop k
theorem fdK_len (l : List UInt8) (k : Nat) (hk : k ≤ l.length) : (fdK l k).length = l.length := by
  unfold fdK
  rw [List.length_append, List.length_take, fdL_len, List.length_drop]; omega
theorem fdK_0 (l : List UInt8) : fdK l 0 = l := by simp [fdK]
theorem fdK_all (l : List UInt8) : fdK l l.length = fdL l := by
  unfold fdK
  rw [List.take_of_length_le (by rw [fdL_len]; omega), List.drop_length, List.append_nil]
theorem fdK_at (l : List UInt8) (k : Nat) (hk : k < l.length) : (fdK l k).getD k 0 = l[k] := by
  unfold fdK
  rw [List.getD_eq_getElem?_getD, List.getElem?_append_right (by rw [List.length_take, fdL_len]; omega), List.length_take, fdL_len, Nat.min_eq_left (by omega), Nat.sub_self, List.getElem?_drop, Nat.add_zero, List.getElem?_eq_getElem hk]
  rfl
theorem fdK_set (l : List UInt8) (k : Nat) (hk : k < l.length) : (fdK l k).set k (smB l[k]) = fdK l (k + 1) := by
  unfold fdK
  have h1 : ((fdL l).take k).length = k := by rw [List.length_take, fdL_len]; omega
  rw [List.set_append_right k _ (by omega), h1, Nat.sub_self, List.drop_eq_getElem_cons hk, List.set_cons_zero, List.take_add_one]
  rw [show (fdL l)[k]? = some (smB l[k]) by simp [fdL, hk]]
  simp

set_option maxHeartbeats 3200000 in
set_option maxRecDepth 100000 in
theorem folded21 (s : ByteArray) (w : World) (hs : s.size ≤ 70368744177664) :
    Calls Tryd.prog 26 #[.string s] w fun e w' => e = .returned (.string ⟨(fdL s.data.toList).toArray⟩) ∧ Below w.heap.size w w' := by
  obtain ⟨c, w0, hcv, hf0, hb0, hc1, hc2⟩ := str21 w s hs
  have HSz : Hid (s.data.toList.length = s.size) := size20 s
  have HF0 : Hid (FdC w0 w.heap.size c (fdK s.data.toList 0)) := by show FdC _ _ _ _; rw [fdK_0]; exact hf0
  have HB0 : Hid (Below w.heap.size w w0) := hb0
  clear hf0 hb0
  obtain ⟨N, hN⟩ : ∃ N, N = w.heap.size := ⟨_, rfl⟩
  obtain ⟨T, hT⟩ : ∃ T, T = fdL s.data.toList := ⟨_, rfl⟩
  rw [← hN] at HF0 HB0 hcv
  rw [← hT, ← hN]
  have HT : Hid (T = fdL s.data.toList) := hT
  clear hN hT
  go_enter Tryd.func26, Tryd.ntmps26
  go_wp2
  go_loopg [4, 5, 10] s.size (fun g a r i wr => ∃ k : Nat, k + g = s.size ∧ i = .int .i64 k ∧ Hid (FdC wr N c (fdK s.data.toList k)) ∧ Hid (Below N w wr))
  case atStart => exact ⟨0, by omega, rfl, HF0.out, HB0.out⟩
  case round =>
    obtain ⟨k, hk, rfl, HF, HB⟩ := hrel
    have HG : Hid (k + gk = s.size) := hk
    clear HF0 HB0
    by_cases hlt : k < s.size
    · have hlt2 : k < s.data.toList.length := by rw [HSz.out]; exact hlt
      have hlen : (fdK s.data.toList k).length = s.size := by rw [fdK_len _ _ (by omega), HSz.out]
      have h1 := HF.out.cell (j := k) (by omega)
      have h2 := HF.out.fz (j := k) (by omega)
      rw [fdK_at _ _ hlt2] at h1
      obtain ⟨z, hz⟩ : ∃ z : Int, z = ((s.data.toList[k]'hlt2).toNat : Nat) := ⟨_, rfl⟩
      have hz0 : 0 ≤ z := by omega
      have hz1 : z < 256 := by have := (s.data.toList[k]'hlt2).toNat_lt; omega
      have HS : Hid (FdC (wr.setCell ⟨N, k, none⟩ (.int .u8 (lowZ z))) N c (fdK s.data.toList (k + 1))) := by
        have h := HF.out.set (k := k) (by omega) (smB (s.data.toList[k]'hlt2))
        rwa [fdK_set _ _ hlt2, smB_nat, ← hz] at h
      have HM : Hid (∀ W, Calls Tryd.prog 41 #[.int .u8 z] W fun e w' => e = .returned (.int .u8 (lowZ z)) ∧ w' = W) := fun W => small21 z W hz0 hz1
      have HB2 : Hid (Below N w (wr.setCell ⟨N, k, none⟩ (.int .u8 (lowZ z)))) := HB.out.setCell (p := ⟨N, k, none⟩) (Nat.le_refl _) _
      rw [← hz] at h1
      clear hz hk hlen HF HB hlt2
      generalize lowZ z = y at *
      go_wp2_with (go_at_call 41; refine (HM.out _).mono ?_; rintro e w2 ⟨rfl, rfl⟩)
      go_roundg (gk - 1)
      case measure => have := HG.out; omega
      case rel => exact ⟨k + 1, by have := HG.out; omega, by go_num, HS.out, HB2.out⟩
    · obtain rfl : k = s.size := by omega
      have h := HF.out
      rw [show fdK s.data.toList s.size = fdL s.data.toList by rw [← HSz.out, fdK_all]] at h
      have hcv2 := conv21 h
      rw [fdL_len, HSz.out, ← HT.out] at hcv2
      clear hk h HF hcv
      go_wp2
      go_ret
      exact ⟨rfl, HB.out⟩

theorem idx_one (x : ByteArray) (c : UInt8) : Lib.indexB x ⟨#[c]⟩ = Lib.indexByte x.data.toList c := Lib.index_one _ _
set_option maxHeartbeats 1600000 in
theorem split21 (s : ByteArray) (w : World) (hs : s.size < 4294967281) :
    Calls Tryd.prog 38 #[.string s, .string ⟨#[10]⟩] w fun e w' => e = .returned (.slice (some ⟨w.heap.size, 0, none⟩) (spB s).length (spB s).length) ∧ w' = w.alloc (.cells ((spB s).map Value.string).toArray 9) := by
  have hle := Lib.countB_le ⟨#[10]⟩ (by decide) s.size s (Nat.le_refl _)
  have hlen := Lib.splitB_all ⟨#[10]⟩ (by decide) 0 _ s rfl
  have h := Tryd.strings_genSplit_core s ⟨#[10]⟩ 0 (-1) (Lib.countB s ⟨#[10]⟩ + 1) w hs (by decide) (by decide)
    (fun x c _ => by
      have h := Tryd.strings_Index_one x 10 (w.alloc (.cells c 9))
      rwa [← idx_one] at h)
    ((Tryd.strings_Count_one s 10 w).mono fun e w' ⟨he, hw⟩ => ⟨by
      rw [he]
      show _ = Ending.returned (Value.int .i64 ((Lib.count s.data.toList [10] : Nat) : Int))
      rw [Lib.count_one]; rfl, hw⟩) (by decide) (by decide) (by rw [if_pos (by decide)]; omega)
  rw [Nat.add_sub_cancel, hlen] at h
  have e2 : Lib.cellsOf (spB s) (Lib.countB s ⟨#[10]⟩ + 1) = ((spB s).map Value.string).toArray := by rw [← hlen]; exact Lib.cellsOf_full _
  have e3 : (spB s).length = Lib.countB s ⟨#[10]⟩ + 1 := hlen
  rw [show Lib.splitB ⟨#[10]⟩ 0 (Lib.countB s ⟨#[10]⟩) s = spB s from rfl, e2, ← e3] at h
  have HC : Hid (Calls Tryd.prog 55 #[.string s, .string ⟨#[10]⟩, .int .i64 0, .int .i64 (-1)] w fun e w' => e = .returned (.slice (some ⟨w.heap.size, 0, none⟩) (spB s).length (spB s).length) ∧ w' = w.alloc (.cells ((spB s).map Value.string).toArray 9)) := h
  clear h e2 e3 hlen hle
  generalize (spB s).length = n at *
  generalize ((spB s).map Value.string).toArray = C at *
  go_enter Tryd.func38, Tryd.ntmps38
  go_wp2_with fail
  refine HC.out.mono ?_
  rintro e w1 ⟨rfl, hw⟩
  have HW : Hid (w1 = w.alloc (.cells C 9)) := hw
  clear hw
  go_wp2
  go_ret
  exact ⟨rfl, HW.out⟩

set_option maxHeartbeats 1600000 in
theorem slCut21_no (s : ByteArray) (c : UInt8) (w : World) (h1 : Lib.indexByte s.data.toList c = -1) :
    Calls Tryd.prog 76 #[.string s, .string ⟨#[c]⟩] w fun e w' => e = .returned (.tuple #[.string s, .string ⟨#[]⟩, .bool false]) ∧ w' = w := by
  have HI := Tryd.stringslite_Index_one s c w
  rw [h1] at HI
  generalize (⟨#[c]⟩ : ByteArray) = C at *
  have HI' : Hid (Calls Tryd.prog 80 #[.string s, .string C] w fun e w' => e = .returned (.int .i64 (-1)) ∧ w' = w) := HI
  clear HI h1
  go_enter Tryd.func76, Tryd.ntmps76
  go_wp2_with fail
  refine HI'.out.mono ?_
  rintro e w1 ⟨rfl, rfl⟩
  go_wp2
  go_returns
  exact ⟨rfl, rfl⟩
set_option maxHeartbeats 1600000 in
theorem slCut21_yes (s : ByteArray) (c : UInt8) (w : World) (k : Nat) (h1 : Lib.indexByte s.data.toList c = k) (hk : k < s.size) (hs : s.size ≤ 281474976710656) :
    Calls Tryd.prog 76 #[.string s, .string ⟨#[c]⟩] w fun e w' => e = .returned (.tuple #[.string (s.extract 0 k), .string (s.extract (k + 1) s.size), .bool true]) ∧ Below w.heap.size w w' := by
  have HI := Tryd.stringslite_Index_one s c w
  rw [h1] at HI
  have HI' : Hid (Calls Tryd.prog 80 #[.string s, .string ⟨#[c]⟩] w fun e w' => e = .returned (.int .i64 (k : Int)) ∧ w' = w) := HI
  have hcs : (⟨#[c]⟩ : ByteArray).size = 1 := rfl
  clear HI h1
  go_enter Tryd.func76, Tryd.ntmps76
  go_wp2_with fail
  refine HI'.out.mono ?_
  rintro e w1 ⟨rfl, rfl⟩
  go_wp2_with fail
  go_quiet (fail)
  go_wp2
  go_returns
  exact ⟨rfl, rfl, rfl, rfl, Nat.le_refl _, fun _ _ => rfl⟩
set_option maxHeartbeats 1600000 in
theorem cut21_no (s : ByteArray) (c : UInt8) (w : World) (h : Lib.indexByte s.data.toList c = -1) :
    Calls Tryd.prog 63 #[.string s, .string ⟨#[c]⟩] w fun e w' => e = .returned (.tuple #[.string s, .string ⟨#[]⟩, .bool false]) ∧ w' = w := by
  have HC : Hid (Calls Tryd.prog 76 #[.string s, .string ⟨#[c]⟩] w fun e w' => e = .returned (.tuple #[.string s, .string ⟨#[]⟩, .bool false]) ∧ w' = w) := slCut21_no s c w h
  generalize (⟨#[c]⟩ : ByteArray) = C at *
  clear h
  go_enter Tryd.func63, Tryd.ntmps63
  go_wp2_with fail
  refine HC.out.mono ?_
  rintro e w1 ⟨rfl, rfl⟩
  go_wp2
  go_returns
  exact ⟨rfl, rfl⟩
set_option maxHeartbeats 1600000 in
theorem cut21_yes (s : ByteArray) (c : UInt8) (w : World) (k : Nat) (h : Lib.indexByte s.data.toList c = k) (hk : k < s.size) (hs : s.size ≤ 281474976710656) :
    Calls Tryd.prog 63 #[.string s, .string ⟨#[c]⟩] w fun e w' => e = .returned (.tuple #[.string (s.extract 0 k), .string (s.extract (k + 1) s.size), .bool true]) ∧ Below w.heap.size w w' := by
  have HC : Hid (Calls Tryd.prog 76 #[.string s, .string ⟨#[c]⟩] w fun e w' => e = .returned (.tuple #[.string (s.extract 0 k), .string (s.extract (k + 1) s.size), .bool true]) ∧ Below w.heap.size w w') := slCut21_yes s c w k h hk hs
  generalize s.extract 0 k = s1 at *
  generalize s.extract (k + 1) s.size = s2 at *
  generalize (⟨#[c]⟩ : ByteArray) = C at *
  clear h
  go_enter Tryd.func63, Tryd.ntmps63
  go_wp2_with fail
  refine HC.out.mono ?_
  rintro e w1 ⟨rfl, bel1⟩
  have HB : Hid (Below w.heap.size w w1) := bel1
  go_wp2
  go_returns
  exact ⟨rfl, HB.out⟩

end Go.Proofs.YtbeaoekbppdlmaaDoor
