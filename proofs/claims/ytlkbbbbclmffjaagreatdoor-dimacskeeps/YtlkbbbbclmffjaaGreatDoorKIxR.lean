/-
  strings.IndexRune of the two blanks at a rune that is no ASCII; strings.IndexAny of the two blanks in any text.
  KEEP: grown below mono set on app nil text own rd rds new kept form lt trans refl rdb tens rdz len cut push whole start row
-/
import Derived.Test.YtlkbbbbclmffjaaGreatDoorKNumW
import Derived.Test.YtlkbbbbclmffjaaGreatDoorShelfR
import Derived.Laws.RangeAny
import Derived.WalkMore
import Derived.Deep.QuietTactic
import Derived.Deep.RegionWith
import Derived.Deep.LoopGhost
import Derived.Sort.AtCall
set_option linter.unusedSimpArgs false
set_option linter.unusedVariables false
namespace Go.Proofs.YtlkbbbbclmffjaaGreatDoor
open Go Go.RowKit

def blS : ByteArray := ⟨#[32, 9]⟩
theorem below_iterX (w : World) (s : ByteArray) (p : Nat) : Below w.heap.size w (w.iter s p) := (Below.refl _ w).alloc (Nat.le_refl _) _
theorem enc2R {r : Int} (h0 : 128 ≤ r) (h1 : r < 2048) : (Utf8.encode r).size = 2 ∧ ∀ h : 1 < (Utf8.encode r).size, 128 ≤ ((Utf8.encode r)[1]).toNat := by
  have hv : Utf8.valid r = true := by unfold Utf8.valid; simp; omega
  have e : Utf8.encode r = ⟨#[UInt8.ofNat (0xC0 + r.toNat / 64), UInt8.ofNat (0x80 + r.toNat % 64)]⟩ := by
    unfold Utf8.encode
    simp only [hv, if_true]
    rw [if_neg (by omega), if_pos (by omega)]
  rw [e]
  refine ⟨rfl, fun h => ?_⟩
  show 128 ≤ (UInt8.ofNat (0x80 + r.toNat % 64)).toNat
  rw [UInt8.toNat_ofNat']
  omega
theorem enc3R {r : Int} (h0 : 2048 ≤ r) (hv : Utf8.valid r = true) : 3 ≤ (Utf8.encode r).size ∧ (Utf8.encode r).size ≤ 4 := by
  have hr : r ≤ 1114111 := by unfold Utf8.valid at hv; simp at hv; omega
  unfold Utf8.encode
  simp only [hv, if_true]
  rw [if_neg (by omega), if_neg (by omega)]
  split <;> simp [ByteArray.size]

set_option maxRecDepth 100000 in
set_option maxHeartbeats 6400000 in
theorem ixRune_no (r : Int) (w : World) (h0 : 128 ≤ r) (h1 : r ≤ 2147483647) :
    Calls Tryz.prog 90 #[.string blS, .int .i32 r] w fun e w' => e = .returned (.int .i64 (-1)) ∧ Below w.heap.size w w' := by
  have hlt : ¬ r < 128 := by omega
  have hnn : (0 : Int) ≤ r := by omega
  have HV := fun W => Tryz.utf8_ValidRune r W
  by_cases he : r = 65533
  · subst he
    clear HV
    have hz : blS.size = 2 := rfl
    go_enter Tryz.func90, Tryz.ntmps90
    go_wp2
    go_loopg [5, 6] 2 (fun g _ _ wx => ∃ i : Nat, i + g = 2 ∧ wx = w.iter blS i)
    case atStart => exact ⟨0, by omega, rfl⟩
    case round =>
      obtain ⟨i, hig, rfl⟩ := hrel
      rcases (show i = 0 ∨ i = 1 ∨ i = 2 by omega) with rfl | rfl | rfl
      · have hnx := fun ty => run_next_ascii (P := Tryz.prog) w blS 0 ty (by decide) (by decide)
        go_wp2
        go_roundg 1
        case measure => omega
        case rel => exact ⟨1, by omega, rfl⟩
      · have hnx := fun ty => run_next_ascii (P := Tryz.prog) w blS 1 ty (by decide) (by decide)
        go_wp2
        go_roundg 0
        case measure => omega
        case rel => exact ⟨2, by omega, rfl⟩
      · have hnx := run_next_end (P := Tryz.prog) w blS 2
        go_wp2
        go_ret
        exact ⟨rfl, below_iterX _ _ _⟩
  · have heb : (r == 65533) = false := by simpa using he
    cases hv : Lib.validRune r
    · have HV2 : Hid (∀ W, Calls Tryz.prog 108 #[.int .i32 r] W fun e w' => e = .returned (.bool false) ∧ w' = W) := fun W => by have := HV W; rwa [hv] at this
      clear HV hv he
      go_enter Tryz.func90, Tryz.ntmps90
      go_wp2_with (go_at_call 108; refine (HV2.out _).mono ?_; rintro e w1 ⟨rfl, rfl⟩)
      go_ret
      exact ⟨rfl, Below.refl _ _⟩
    · have HV2 : Hid (∀ W, Calls Tryz.prog 108 #[.int .i32 r] W fun e w' => e = .returned (.bool true) ∧ w' = W) := fun W => by have := HV W; rwa [hv] at this
      have hvv : Utf8.valid r = true := by
        unfold Lib.validRune at hv
        unfold Utf8.valid
        simp at hv ⊢
        omega
      by_cases h2 : r < 2048
      · obtain ⟨hE1, hE2⟩ := enc2R h0 h2
        have hE3 := hE2 (by omega)
        have HIB : Hid (∀ (c : Int) (W : World), Calls Tryz.prog 107 #[.string ByteArray.empty, .int .u8 c] W fun e w' => e = .returned (.int .i64 (-1)) ∧ w' = W) := fun c W => by
          have := Tryz.strings_IndexByte ByteArray.empty c W
          rwa [show ByteArray.empty.data.toList = [] from rfl] at this
        have hq9 : ((9 : Int) != (((Utf8.encode r)[1]'(by omega)).toNat : Int)) = true := by
          rw [bne, beq_eq_false_iff_ne.2 (by omega)]; rfl
        have hb1 : ((blS[1]'(by decide)).toNat : Int) = 9 := rfl
        have hz : blS.size = 2 := rfl
        have hw2 : IntKind.i64.wrap 2 = 2 := by decide
        clear HV hv he hvv h2 hE2
        go_enter Tryz.func90, Tryz.ntmps90
        go_wp2_with (go_at_call 108; refine (HV2.out _).mono ?_; rintro e w1 ⟨rfl, rfl⟩)
        go_step3
        go_wp2
        go_loopg [9] 1 (fun g i wr => i = .int .i64 1 ∧ wr = w1)
        case atStart => exact ⟨rfl, rfl⟩
        case round =>
          obtain ⟨rfl, rfl⟩ := hrel
          go_upto_region 6 with fail
          go_step3
          go_upto_region 6 with fail
          go_quiet (fail)
          go_upto_region 7 with fail
          go_region_with ((go_at_call 107; refine (HIB.out _ _).mono ?_; rintro e w2 ⟨rfl, rfl⟩))
          all_goals
            go_wp2
            rw [Exit.noGoto_ret]
            simp only [Exit.inBlock, Exit.then, Exit.noGoto_ret]
            go_ret
            exact ⟨rfl, below_drewN _ _⟩
      · have hE := enc3R (by omega) hvv
        clear HV hv he hvv h2
        go_enter Tryz.func90, Tryz.ntmps90
        go_wp2_with (go_at_call 108; refine (HV2.out _).mono ?_; rintro e w1 ⟨rfl, rfl⟩)
        go_step3
        go_wp2
        go_loopg [9] 1 (fun g i wr => i = .int .i64 (((Utf8.encode r).size : Int) - 1) ∧ wr = w1)
        case atStart => exact ⟨by go_num, rfl⟩
        case round =>
          obtain ⟨rfl, rfl⟩ := hrel
          have hz : blS.size = 2 := rfl
          have hnl : ¬ (((Utf8.encode r).size : Int) - 1 < 2) := by omega
          go_wp2
          go_ret
          exact ⟨rfl, Below.refl _ _⟩

end Go.Proofs.YtlkbbbbclmffjaaGreatDoor
