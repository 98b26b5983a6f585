/-
  control: the program's questions of a text, walked: trimmed, small, alike, folded, isFair, isName, strings.Split at a line feed, isValue, strings.Cut at a byte, strings.Clone.
  KEEP: len below nil form rd mono on app start at new trans refl kept own row out grown rdz set one more lt size cell some none letL tail next step go add put del get look no yes e c f b k n m box Ltr
-/
import Derived.Test.YtbeaoekbppdlmaaDoorKCvQ
import Derived.Test.YtbeaoekbppdlmaaDoorShelfR
import Derived.Test.YtbeaoekbppdlmaaDoorByT
import Derived.Deep.CutRange
import Derived.Deep.RegionHeld
import Derived.Lib.OthersKept
set_option linter.unusedSimpArgs false
set_option linter.unusedVariables false
namespace Go.Proofs.YtbeaoekbppdlmaaDoor
open Go Go.RowKit

theorem clone21 (s : ByteArray) (w : World) (hs : s.size ≤ 281474976710656) :
    Calls Tryd.prog 28 #[.string s] w fun e w' => e = .returned (.string s) ∧ Below w.heap.size w w' := by
  have HC : Hid (Calls Tryd.prog 42 #[.string s] w fun e w' => e = .returned (.string s) ∧ Below w.heap.size w w') := Tryd.stringslite_Clone s w hs
  go_enter Tryd.func28, Tryd.ntmps28
  go_wp2_with fail
  refine HC.out.mono ?_
  rintro e w1 ⟨rfl, bel⟩
  have HB : Hid (Below w.heap.size w w1) := bel
  go_wp2
  go_ret
  exact ⟨rfl, HB.out⟩

set_option maxHeartbeats 1600000 in
theorem trimmed21 (s : ByteArray) (w : World) (hs : s.size ≤ 281474976710656) :
    Calls Tryd.prog 40 #[.string s] w fun e w' => e = .returned (.string ⟨(trF s.data.toList).toArray⟩) ∧ Below w.heap.size w w' := by
  have h := Tryd.strings_Trim_laid s ⟨#[32, 9]⟩ w (by omega) (by decide) (fun j b hj => by
    match j, hj with
    | 0, hj => simp at hj; subst hj; decide
    | 1, hj => simp at hj; subst hj; decide)
  rw [show (⟨#[32, 9]⟩ : ByteArray).data.toList = [32, 9] from rfl, trimS_trF] at h
  have HC : Hid (Calls Tryd.prog 57 #[.string s, .string ⟨#[32, 9]⟩] w fun e w' => e = .returned (.string ⟨(trF s.data.toList).toArray⟩) ∧ Below w.heap.size w w') := h
  clear h
  generalize trF s.data.toList = T at *
  go_enter Tryd.func40, Tryd.ntmps40
  go_wp2_with fail
  refine HC.out.mono ?_
  rintro e w1 ⟨rfl, bel⟩
  have HB : Hid (Below w.heap.size w w1) := bel
  go_wp2
  go_ret
  exact ⟨rfl, HB.out⟩

set_option maxHeartbeats 1600000 in
theorem small21 (z : Int) (w : World) (h0 : 0 ≤ z) (h1 : z < 256) : Calls Tryd.prog 41 #[.int .u8 z] w fun e w' => e = .returned (.int .u8 (lowZ z)) ∧ w' = w := by
  by_cases c1 : 65 ≤ z
  · by_cases c2 : z ≤ 90
    · have e : lowZ z = z + 32 := by unfold lowZ; rw [if_pos ⟨c1, c2⟩]
      rw [e]
      clear e
      go_enter Tryd.func41, Tryd.ntmps41
      go_wp2
      go_ret
      refine ⟨?_, rfl⟩
      show Ending.returned (.int .u8 (z - 65 + 97)) = _
      congr 2; omega
    · have e : lowZ z = z := by unfold lowZ; rw [if_neg (fun h => c2 h.2)]
      rw [e]
      clear e
      go_enter Tryd.func41, Tryd.ntmps41
      go_wp2
      go_ret
      exact ⟨rfl, rfl⟩
  · have e : lowZ z = z := by unfold lowZ; rw [if_neg (fun h => c1 h.1)]
    rw [e]
    clear e
    go_enter Tryd.func41, Tryd.ntmps41
    go_wp2
    go_ret
    exact ⟨rfl, rfl⟩

set_option maxHeartbeats 1600000 in
theorem isFair21 (s : ByteArray) (w : World) (hs : s.size ≤ 281474976710656) :
    Calls Tryd.prog 39 #[.string s] w fun e w' => e = .returned (.bool (fairF false s.data.toList)) ∧ Below w.heap.size w w' := by
  have HSz : Hid (s.data.toList.length = s.size) := size20 s
  obtain ⟨E, hE⟩ : ∃ E, E = fairF false s.data.toList := ⟨_, rfl⟩
  rw [← hE]
  have HE0 : Hid (fairF false (s.data.toList.drop 0) = E) := by show _ = _; rw [hE]; rfl
  obtain ⟨N, hN⟩ : ∃ N, N = w.heap.size := ⟨_, rfl⟩
  have HN : Hid (N = w.heap.size) := hN
  have HB0 : Hid (Below w.heap.size w (w.iter s 0)) := (Below.refl _ _).alloc (Nat.le_refl _) _
  rw [← hN] at HB0 ⊢
  clear hE
  go_enter Tryd.func39, Tryd.ntmps39
  go_wp2
  rw [← hN]
  clear hN
  go_loopg [3, 4] s.size (fun g a r wr => ∃ p : Nat, p + g = s.size ∧ Hid (fairF false (s.data.toList.drop p) = E) ∧ wr.heap[N]? = some (.stringIter s p) ∧ Hid (Below N w wr))
  case atStart => exact ⟨0, by omega, HE0.out, by rw [HN.out]; exact World.iter_heap _ _ _, HB0.out⟩
  case round =>
    obtain ⟨p, hg, HE, hit, HB⟩ := hrel
    have HG : Hid (p + gk = s.size) := hg
    clear HE0 HB0
    by_cases hp : p < s.size
    · have HD : Hid (s.data.toList.drop p = s[p] :: s.data.toList.drop (p + 1)) := drop20 hp
      by_cases hb : (s[p]'hp).toNat < 128
      · have hnx : ∀ ty, (Instr.next (.pointer (some ⟨N, 0, none⟩)) true ty).run Tryd.prog wr = .ok (.tuple #[.bool true, .int .i64 p, .int .i32 (s[p]'hp).toNat]) (wr.iterAt N s (p + 1)) := fun ty => Lib.run_next_ascii_at wr N s p ty hit hp hb
        have hit2 := Lib.iterAt_heap wr N s p (p + 1) hit
        have HB2 : Hid (Below N w (wr.iterAt N s (p + 1))) := HB.out.trans ⟨rfl, rfl, rfl, by rw [Lib.iterAt_size]; exact Nat.le_refl _, fun j hj => Lib.iterAt_other _ _ _ _ _ (by omega)⟩
        rw [HD.out, fair_low hb] at HE
        generalize wr.iterAt N s (p + 1) = w1 at *
        have HX : Hid (frB false (s[p]'hp).toNat = true → fairF false (s.data.toList.drop (p + 1)) = E) := fun h => by have := HE.out; rw [h, Bool.true_and] at this; exact this
        have HY : Hid (frB false (s[p]'hp).toNat = false → false = E) := fun h => by have := HE.out; rw [h, Bool.false_and] at this; exact this
        clear hit HD HE HB hg
        obtain ⟨z, hz⟩ : ∃ z : Int, z = (((s[p]'hp).toNat : Nat) : Int) := ⟨_, rfl⟩
        have h128 : z < 128 := by omega
        have h00 : 0 ≤ z := by omega
        rw [← hz] at HX HY hnx
        clear hz hb
        by_cases c1 : z = 127
        · subst c1
          have HE : Hid (false = E) := HY.out rfl
          clear HX HY
          go_wp2
          go_ret
          exact ⟨ret_bool HE.out, HB2.out⟩
        have c1b : (z == 127) = false := beq_eq_false_iff_ne.2 c1
        by_cases c2 : z < 32
        · by_cases c3 : z = 9
          · subst c3
            have HE : Hid (fairF false (s.data.toList.drop (p + 1)) = E) := HX.out rfl
            clear HX HY
            go_wp2
            go_roundg (gk - 1)
            case measure => have := HG.out; omega
            case rel => exact ⟨p + 1, by have := HG.out; omega, HE.out, hit2, HB2.out⟩
          · have c3b : (z != 9) = true := bne_iff_ne.2 c3
            have HE : Hid (false = E) := HY.out (by unfold frB; rw [c1b, decide_eq_true c2, c3b]; simp)
            clear HX HY c3
            go_wp2
            go_ret
            exact ⟨ret_bool HE.out, HB2.out⟩
        · have c4 : (z == 65533) = false := beq_eq_false_iff_ne.2 (by omega)
          have HE : Hid (fairF false (s.data.toList.drop (p + 1)) = E) := HX.out (by unfold frB; rw [c1b, decide_eq_false c2]; rfl)
          clear HX HY c1
          go_wp2
          go_roundg (gk - 1)
          case measure => have := HG.out; omega
          case rel => exact ⟨p + 1, by have := HG.out; omega, HE.out, hit2, HB2.out⟩
      · have hnx : ∀ ty, (Instr.next (.pointer (some ⟨N, 0, none⟩)) true ty).run Tryd.prog wr = .ok (.tuple #[.bool true, .int .i64 p, .int .i32 (Utf8.decode s p).1]) (wr.iterAt N s (p + (Utf8.decode s p).2)) := fun ty => Lib.run_next_any_at wr N s p ty hit hp
        have hit2 := Lib.iterAt_heap wr N s p (p + (Utf8.decode s p).2) hit
        have HB2 : Hid (Below N w (wr.iterAt N s (p + (Utf8.decode s p).2))) := HB.out.trans ⟨rfl, rfl, rfl, by rw [Lib.iterAt_size]; exact Nat.le_refl _, fun j hj => Lib.iterAt_other _ _ _ _ _ (by omega)⟩
        have HL := dec_let s p hp (by omega)
        have hhi : 128 ≤ (Utf8.decode s p).1 := (decode_high s p hp (by omega)).1
        have hpl : (s.data.toList.drop p).length = s.size - p := by rw [List.length_drop, HSz.out]
        have HPf : ∀ W, Calls Tryd.prog 56 #[.string (s.extract p s.size), .string ⟨#[239, 191, 189]⟩] W fun e w' => e = .returned (.bool (([239, 191, 189] : List UInt8).isPrefixOf (s.data.toList.drop p))) ∧ w' = W := fun W => by
          have h := Tryd.strings_HasPrefix (s.extract p s.size) ⟨#[239, 191, 189]⟩ W
          unfold Lib.hasPrefix at h
          rwa [ext_list, List.take_of_length_le (by rw [hpl]; omega)] at h
        generalize wr.iterAt N s (p + (Utf8.decode s p).2) = w1 at *
        have HPre : Hid ((([239, 191, 189] : List UInt8).isPrefixOf (s.data.toList.drop p)) = true ↔ [239, 191, 189] <+: s.data.toList.drop p) := List.isPrefixOf_iff_prefix
        generalize ([239, 191, 189] : List UInt8).isPrefixOf (s.data.toList.drop p) = pf at *
        clear hit HD HB hb hg
        have hps : p ≤ s.size := by omega
        rcases HL with ⟨n, hn, hnl, hl1, hl2, hl3⟩ | ⟨hd, hbad, hnp⟩
        · rw [fair_ltr hl1 hl2, List.drop_drop] at HE
          rw [hn] at hit2
          have hnl2 : p + (n + 1) ≤ s.size := by omega
          have HE2 : Hid (fairF false (s.data.toList.drop (p + (n + 1))) = E) := HE
          have HNl : Hid (p + (n + 1) ≤ s.size) := hnl2
          have HIt : Hid (w1.heap[N]? = some (.stringIter s (p + (n + 1)))) := hit2
          clear HE hn hnl hl1 hl2 hpl hnl2 hit2
          obtain ⟨z, hz⟩ : ∃ z : Int, z = (((Utf8.decode s p).1 : Nat) : Int) := ⟨_, rfl⟩
          have h128 : 128 ≤ z := by omega
          by_cases hz9 : z = 65533
          · have hpf : pf = true := HPre.out.2 (hl3 (by omega))
            subst hpf
            rw [← hz] at hnx
            subst hz9
            have HP : Hid (∀ W, Calls Tryd.prog 56 #[.string (s.extract p s.size), .string ⟨#[239, 191, 189]⟩] W fun e w' => e = .returned (.bool true) ∧ w' = W) := HPf
            clear hz hhi hl3 HPf HPre
            go_wp2_with (go_at_call 56; refine (HP.out _).mono ?_; rintro e w2 ⟨rfl, rfl⟩)
            go_roundg (gk - (n + 1))
            case measure => have := HG.out; have := HNl.out; omega
            case rel => exact ⟨p + (n + 1), by have := HG.out; have := HNl.out; omega, HE2.out, HIt.out, HB2.out⟩
          · have c4 : (z == 65533) = false := beq_eq_false_iff_ne.2 hz9
            have c1b : (z == 127) = false := beq_eq_false_iff_ne.2 (by omega)
            have c2 : ¬ z < 32 := by omega
            rw [← hz] at hnx
            clear hz hhi hl3 HPf HPre hz9
            go_wp2
            go_roundg (gk - (n + 1))
            case measure => have := HG.out; have := HNl.out; omega
            case rel => exact ⟨p + (n + 1), by have := HG.out; have := HNl.out; omega, HE2.out, HIt.out, HB2.out⟩
        · have hpf : pf = false := by
            cases pf
            · rfl
            · exact absurd (HPre.out.1 rfl) hnp
          subst hpf
          have HE2 : Hid (false = E) := by show _ = _; rw [← HE.out, fair_bad hbad]
          rw [hd] at hnx hit2
          have hnx2 : ∀ ty, (Instr.next (.pointer (some ⟨N, 0, none⟩)) true ty).run Tryd.prog wr = .ok (.tuple #[.bool true, .int .i64 p, .int .i32 65533]) w1 := hnx
          have HP : Hid (∀ W, Calls Tryd.prog 56 #[.string (s.extract p s.size), .string ⟨#[239, 191, 189]⟩] W fun e w' => e = .returned (.bool false) ∧ w' = W) := HPf
          clear hnx hd hbad hnp HPf HPre hit2 HE hhi hpl
          go_wp2_with (go_at_call 56; refine (HP.out _).mono ?_; rintro e w2 ⟨rfl, rfl⟩)
          go_ret
          exact ⟨ret_bool HE2.out, HB2.out⟩
    · have hnx : ∀ ty, (Instr.next (.pointer (some ⟨N, 0, none⟩)) true ty).run Tryd.prog wr = .ok (.tuple #[.bool false]) wr := fun ty => Lib.run_next_end_at wr N s p ty hit hp
      have HE2 : Hid (true = E) := by
        show _ = _
        have := HE.out
        rw [List.drop_eq_nil_of_le (by rw [HSz.out]; omega)] at this
        rw [← this]; rfl
      clear HE
      go_wp2
      go_ret
      exact ⟨ret_bool HE2.out, HB.out⟩

end Go.Proofs.YtbeaoekbppdlmaaDoor
