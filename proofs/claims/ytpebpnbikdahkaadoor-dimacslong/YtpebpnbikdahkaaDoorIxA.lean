/-
  strings.IndexAny of the two blanks, in any text.
  KEEP: grown below mono set on app nil text own rd rds new kept form lt trans refl rdb tens rdz len cut push whole start row
-/
import Derived.Test.YtpebpnbikdahkaaDoorIxR
import Derived.Lib.OthersKept
import Derived.Lib.IndexAny
import Derived.Lib.Hide
set_option linter.unusedSimpArgs false
set_option linter.unusedVariables false
namespace Go.Proofs.YtpebpnbikdahkaaDoor
open Go Go.RowKit

theorem get_bangX {s : ByteArray} {k : Nat} (h : k < s.size) : s.get! k = s[k] := by
  simp [ByteArray.get!, getElem!_pos, h]; rfl
/-- what is no ASCII byte begins a run of such -/
theorem decode_spanX (s : ByteArray) (pos : Nat) (h : pos < s.size) (ha : 128 ≤ (s[pos]'h).toNat) :
    1 ≤ (Utf8.decode s pos).2 ∧ pos + (Utf8.decode s pos).2 ≤ s.size ∧ ∀ j, j < (Utf8.decode s pos).2 → 128 ≤ (s.get! (pos + j)).toNat := by
  have hn : ¬ (s[pos]'h).toNat < 128 := by omega
  have h0 : (s.get! (pos + 0)).toNat = (s[pos]'h).toNat := by rw [get_at s pos h]
  have one : 1 ≤ 1 ∧ pos + 1 ≤ s.size ∧ ∀ j, j < 1 → 128 ≤ (s.get! (pos + j)).toNat := by
    refine ⟨Nat.le_refl _, by omega, fun j hj => ?_⟩
    have hj0 : j = 0 := by omega
    subst hj0
    rw [h0]; exact ha
  simp only [Utf8.decode, get_at s pos h, hn, if_false]
  split
  · rename_i hc
    simp only [Bool.and_eq_true, decide_eq_true_eq, beq_iff_eq] at hc
    split
    · refine ⟨by show 1 ≤ 2; omega, by show pos + 2 ≤ _; omega, fun j hj => ?_⟩
      have hj' : j < 2 := hj
      rcases (show j = 0 ∨ j = 1 by omega) with rfl | rfl
      · rw [h0]; exact ha
      · omega
    · exact one
  · split
    · rename_i hc
      simp only [Bool.and_eq_true, decide_eq_true_eq, beq_iff_eq] at hc
      split
      · refine ⟨by show 1 ≤ 3; omega, by show pos + 3 ≤ _; omega, fun j hj => ?_⟩
        have hj' : j < 3 := hj
        rcases (show j = 0 ∨ j = 1 ∨ j = 2 by omega) with rfl | rfl | rfl
        · rw [h0]; exact ha
        · omega
        · omega
      · exact one
    · split
      · rename_i hc
        simp only [Bool.and_eq_true, decide_eq_true_eq, beq_iff_eq] at hc
        split
        · refine ⟨by show 1 ≤ 4; omega, by show pos + 4 ≤ _; omega, fun j hj => ?_⟩
          have hj' : j < 4 := hj
          rcases (show j = 0 ∨ j = 1 ∨ j = 2 ∨ j = 3 by omega) with rfl | rfl | rfl | rfl
          · rw [h0]; exact ha
          · omega
          · omega
          · omega
        · exact one
      · exact one
theorem noAny_span {s : ByteArray} {i d : Nat} (h : Lib.NoAny s.data.toList [32, 9] i) (hd : i + d ≤ s.size) (hs : ∀ j, j < d → 128 ≤ (s.get! (i + j)).toNat) : Lib.NoAny s.data.toList [32, 9] (i + d) := fun j b hj hb => by
  rcases Nat.lt_or_ge j i with h1 | h1
  · exact h j b h1 hb
  · have h2 := hs (j - i) (by omega)
    rw [show i + (j - i) = j by omega, get_bangX (by omega)] at h2
    have hb2 : b = s[j]'(by omega) := by
      have := Lib.data_getElem? s j (by omega)
      rw [hb] at this
      exact Option.some.inj this
    subst hb2
    have n32 : s[j]'(by omega) ≠ 32 := fun e => by rw [e] at h2; simp at h2
    have n9 : s[j]'(by omega) ≠ 9 := fun e => by rw [e] at h2; simp at h2
    simp [n32, n9]

set_option maxRecDepth 100000 in
set_option maxHeartbeats 6400000 in
theorem ixAny_short (s : ByteArray) (w : World) (h8 : s.size ≤ 8) :
    Calls Tryd.prog 21 #[.string s, .string blS] w fun e w' => e = .returned (.int .i64 (Lib.indexAny s.data.toList [32, 9])) ∧ Below w.heap.size w w' := by
  have hz : blS.size = 2 := rfl
  have hemp : blS.toList.isEmpty = false := by rw [ByteArray.toList_eq]; rfl
  have h8z : decide ((8 : Int) < (s.size : Int)) = false := decide_eq_false (by omega)
  have HU : Hid (∀ W : World, Calls Tryd.prog 35 #[.int .i64 (s.size : Int)] W fun e w' => e = .returned (.bool false) ∧ w' = W) := fun W => by have := Tryd.strings_shouldUseASCIISet (s.size : Int) W; rwa [h8z] at this
  clear h8z
  go_enter Tryd.func21, Tryd.ntmps21
  go_wp2_with (go_at_call 35; refine (HU.out _).mono ?_; rintro e w1 ⟨rfl, rfl⟩)
  go_loopg [9, 10] s.size (fun g _ _ wr => ∃ i : Nat, i + g = s.size ∧ Hid (wr.heap[w1.heap.size]? = some (.stringIter s i)) ∧ Hid (Below w1.heap.size w1 wr) ∧ Hid (Lib.NoAny s.data.toList [32, 9] i))
  case atStart => exact ⟨0, by omega, World.iter_heap w1 s 0, below_iterX _ _ _, Lib.NoAny.zero _ _⟩
  case round =>
    obtain ⟨i, hig, HIt, BL, HN⟩ := hrel
    have HG : Hid (i + gk = s.size) := hig
    have hNl : w1.heap.size < wr.heap.size := (Array.getElem?_eq_some_iff.1 HIt.out).1
    by_cases hlt : i < s.size
    · obtain ⟨x, hx⟩ : ∃ x : UInt8, s[i]'hlt = x := ⟨_, rfl⟩
      have Hx : Hid (s.data.toList[i]? = some x) := by show _ = _; rw [← hx]; exact Lib.data_getElem? s i hlt
      by_cases h128 : x.toNat < 128
      · have hnx := fun ty => Lib.run_next_ascii_at (P := Tryd.prog) wr w1.heap.size s i ty HIt.out hlt (by rw [hx]; exact h128)
        rw [hx] at hnx
        have HIt2 : Hid ((wr.iterAt w1.heap.size s (i + 1)).heap[w1.heap.size]? = some (.stringIter s (i + 1))) := Lib.iterAt_heap wr w1.heap.size s i (i + 1) HIt.out
        have BL2 : Hid (Below w1.heap.size w1 (wr.iterAt w1.heap.size s (i + 1))) := Lib.below_iterAt BL.out (Nat.le_refl _) s (i + 1)
        have hcon := Lib.contains_iff_indexByte [32, 9] x
        have HR : Hid (∀ W : World, Calls Tryd.prog 34 #[.string blS, .int .i32 (x.toNat : Int)] W fun e w' => e = .returned (.int .i64 (Lib.indexByte [32, 9] x)) ∧ w' = W) := fun W => by
          have := Tryd.strings_IndexRune_ascii blS (x.toNat : Int) W (by omega) (by omega)
          rwa [show ((x.toNat : Int)).toNat.toUInt8 = x by simp] at this
        clear hx hig
        generalize wr.iterAt w1.heap.size s (i + 1) = w2 at *
        cases hin : ([32, 9] : List UInt8).contains x
        · rw [hin] at hcon
          have hneg : ¬ ((0 : Int) ≤ Lib.indexByte [32, 9] x) := of_decide_eq_false hcon.symm
          have HN2 : Hid (Lib.NoAny s.data.toList [32, 9] (i + 1)) := HN.out.succ Hx.out hin
          clear hcon hin
          generalize Lib.indexByte [32, 9] x = q at *
          go_wp2_with (go_at_call 34; refine (HR.out _).mono ?_; rintro e w3 ⟨rfl, rfl⟩)
          go_roundg (gk - 1)
          case measure => have := HG.out; omega
          case rel => exact ⟨i + 1, by have := HG.out; omega, HIt2.out, BL2.out, HN2.out⟩
        · rw [hin] at hcon
          have hge : (0 : Int) ≤ Lib.indexByte [32, 9] x := of_decide_eq_true hcon.symm
          have HE : Hid (Lib.indexAny s.data.toList [32, 9] = (i : Int)) := Lib.indexAny_hit HN.out Hx.out hin
          clear hcon hin
          generalize Lib.indexByte [32, 9] x = q at *
          go_wp2_with (go_at_call 34; refine (HR.out _).mono ?_; rintro e w3 ⟨rfl, rfl⟩)
          go_ret
          exact ⟨ret_int HE.out.symm, BL2.out⟩
      · have hhi : 128 ≤ (s[i]'hlt).toNat := by rw [hx]; omega
        obtain ⟨d1, d2, d3⟩ := decode_spanX s i hlt hhi
        have d4 := (decode_high s i hlt hhi).1
        have d5 := decode_le s i
        have hnx : ∀ ty, (Instr.next (.pointer (some ⟨w1.heap.size, 0, none⟩)) true ty).run Tryd.prog wr = .ok (.tuple #[.bool true, .int .i64 i, .int .i32 (Utf8.decode s i).1]) (wr.iterAt w1.heap.size s (i + (Utf8.decode s i).2)) := fun ty => Lib.run_next_any_at wr w1.heap.size s i ty HIt.out hlt
        have HIt2 : Hid ((wr.iterAt w1.heap.size s (i + (Utf8.decode s i).2)).heap[w1.heap.size]? = some (.stringIter s (i + (Utf8.decode s i).2))) := Lib.iterAt_heap wr w1.heap.size s i _ HIt.out
        have BL2 : Hid (Below w1.heap.size w1 (wr.iterAt w1.heap.size s (i + (Utf8.decode s i).2))) := Lib.below_iterAt BL.out (Nat.le_refl _) s _
        have HN2 : Hid (Lib.NoAny s.data.toList [32, 9] (i + (Utf8.decode s i).2)) := noAny_span HN.out d2 d3
        have HR : Hid (∀ W : World, Calls Tryd.prog 34 #[.string blS, .int .i32 ((Utf8.decode s i).1 : Int)] W fun e w' => e = .returned (.int .i64 (-1)) ∧ Below W.heap.size W w') := fun W => ixRune_no _ W (by omega) (by omega)
        clear hx hig hhi d3 h128 d4 d5
        generalize (Utf8.decode s i).1 = zn at *
        generalize (Utf8.decode s i).2 = dd at *
        have hN2 : w1.heap.size < (wr.iterAt w1.heap.size s (i + dd)).heap.size := (Array.getElem?_eq_some_iff.1 HIt2.out).1
        generalize wr.iterAt w1.heap.size s (i + dd) = w2 at *
        go_wp2_with (go_at_call 34; refine (HR.out _).mono ?_; rintro e w3 ⟨rfl, bel3⟩)
        go_roundg (gk - dd)
        case measure => have := HG.out; omega
        case rel => exact ⟨i + dd, by have := HG.out; omega, (bel3.block _ hN2).trans HIt2.out, BL2.out.trans (bel3.mono BL2.out.size), HN2.out⟩
    · obtain rfl : i = s.size := by omega
      have hnx := fun ty => Lib.run_next_end_at (P := Tryd.prog) wr w1.heap.size s s.size ty HIt.out (by omega)
      have HE : Hid (Lib.indexAny s.data.toList [32, 9] = -1) := Lib.indexAny_none (by have := HN.out; rw [← Lib.size_eq]; exact this)
      clear hig
      go_wp2
      go_ret
      exact ⟨ret_int HE.out.symm, BL.out⟩

theorem infoAs : (Tryd.prog.info? 61).map (fun i => (i.zero, i.size)) = some (some (.agg (Array.replicate 256 (.bool false))), 256) := by kernel_rfl
theorem bl_asciiX : ∀ (j : Nat) (b : UInt8), blS.data.toList[j]? = some b → b.toNat < 128 := by
  intro j b h
  have := List.mem_of_getElem? h
  simp [blS] at this
  rcases this with rfl | rfl <;> decide
theorem ixAny_any (s : ByteArray) (w : World) (hs : s.size < 4294967281) :
    Calls Tryd.prog 21 #[.string s, .string ⟨#[32, 9]⟩] w fun e w' => e = .returned (.int .i64 (Lib.indexAny s.data.toList [32, 9])) ∧ Below w.heap.size w w' := by
  rcases Nat.lt_or_ge 8 s.size with h | h
  · refine (Tryd.strings_IndexAny_long (zero_of_info infoAs).1 s ⟨#[32, 9]⟩ w (by decide) h hs (by decide) bl_asciiX).mono ?_
    rintro e w' ⟨rfl, rfl⟩
    exact ⟨rfl, ((Below.refl _ w).alloc (Nat.le_refl _) _).alloc (by simp) _⟩
  · exact ixAny_short s w h

end Go.Proofs.YtpebpnbikdahkaaDoor
