/-
  The document's Fair, Name, Alike, walked.
  KEEP: len below nil form rd mono on app start at new trans refl kept own row out grown rdz set one more lt size cell some none letL tail next step go add put del get look no yes e c f b k n m box
-/
import Derived.Test.YtblkhkfjaggnfaaDoorCtL
set_option linter.unusedSimpArgs false
set_option linter.unusedVariables false
namespace Go.Proofs.YtblkhkfjaggnfaaDoor
open Go Go.RowKit

set_option maxHeartbeats 3200000 in
theorem rFair21_any (s : ByteArray) (fd : Bool) (w : World) (hs : s.size ≤ 281474976710656) :
    Calls Tryd.prog 18 #[.string s, .bool fd] w fun e w' => e = .returned (.bool (fairF fd s.data.toList)) ∧ w' = w := by
  have HL : Hid (Calls Tryd.prog 36 #[.string s] w fun e w' => e = .returned (.bool (letL s.data.toList)) ∧ w' = w) := rLetters21_any s w hs
  have HF : Hid (fairF fd s.data.toList = (s.data.toList.all (fun b => frB fd b.toNat) && letL s.data.toList)) := rfl
  have HSz : Hid (s.data.toList.length = s.size) := size20 s
  have HA : Hid (s.data.toList.all (fun b => frB fd b.toNat) = (s.data.toList.drop 0).all (fun b => frB fd b.toNat)) := rfl
  generalize letL s.data.toList = L at *
  generalize fairF fd s.data.toList = F at *
  generalize hA : s.data.toList.all (fun b => frB fd b.toNat) = a at *
  clear hA
  go_enter Tryd.func18, Tryd.ntmps18
  go_wp2
  go_loopg [5] s.size (fun g i wr => ∃ k : Nat, k + g = s.size ∧ i = .int .i64 k ∧ Hid (a = (s.data.toList.drop k).all (fun b => frB fd b.toNat)) ∧ w = wr)
  case atStart => exact ⟨0, by omega, rfl, HA.out, rfl⟩
  case round =>
    obtain ⟨k, hk, rfl, HK, hw⟩ := hrel
    subst hw
    have HG : Hid (k + gk = s.size) := hk
    by_cases hlt : k < s.size
    · have hd := drop20 hlt
      have HK2 : Hid (a = (frB fd (s[k]'hlt).toNat && (s.data.toList.drop (k + 1)).all (fun b => frB fd b.toNat))) := by show _ = _; rw [HK.out, hd, List.all_cons]
      have hz0 : 0 ≤ (((s[k]'hlt).toNat : Nat) : Int) := by omega
      clear hk HK hd HA
      obtain ⟨z, hz⟩ : ∃ z : Int, z = (((s[k]'hlt).toNat : Nat) : Int) := ⟨_, rfl⟩
      have hzz : (((s[k]'hlt).toNat : Nat) : Int) = z := hz.symm
      rw [← hz] at HK2 hz0
      clear hz
      have HX : Hid (frB fd z = true → a = (s.data.toList.drop (k + 1)).all (fun b => frB fd b.toNat)) := fun h => by rw [HK2.out, h]; rfl
      have HY : Hid (frB fd z = false → F = false) := fun h => by rw [HF.out, HK2.out, h]; rfl
      clear HK2
      by_cases c1 : z = 127
      · subst c1
        have HE : Hid (F = false) := HY.out (by cases fd <;> rfl)
        clear HX HY
        go_wp2
        go_ret
        exact ⟨ret_bool HE.out.symm, rfl⟩
      have b1 : (z == 127) = false := by simpa using c1
      by_cases c2 : z < 32
      · by_cases c3 : z = 9
        · subst c3
          have HE := HX.out (by cases fd <;> rfl)
          have HE2 : Hid (a = (s.data.toList.drop (k + 1)).all (fun b => frB fd b.toNat)) := HE
          clear HX HY HE c1
          go_wp2
          go_roundg (gk - 1)
          case measure => have := HG.out; omega
          case rel => exact ⟨k + 1, by have := HG.out; omega, by go_num, HE2.out, rfl⟩
        have b3 : (z != 9) = true := by simpa using c3
        have b3' : (z == 9) = false := by simpa using c3
        cases fd
        · have HE : Hid (F = false) := HY.out (by unfold frB; rw [b1, decide_eq_true c2, b3]; rfl)
          clear HX HY c1
          go_wp2
          go_ret
          exact ⟨ret_bool HE.out.symm, rfl⟩
        · by_cases c4 : z = 10
          · subst c4
            have HE := HX.out (by rfl)
            have HE2 : Hid (a = (s.data.toList.drop (k + 1)).all (fun b => frB true b.toNat)) := HE
            clear HX HY HE c1 c3
            go_wp2
            go_roundg (gk - 1)
            case measure => have := HG.out; omega
            case rel => exact ⟨k + 1, by have := HG.out; omega, by go_num, HE2.out, rfl⟩
          · have b4 : (z == 10) = false := by simpa using c4
            have HE : Hid (F = false) := HY.out (by unfold frB; rw [b1, decide_eq_true c2, b3, b4]; rfl)
            clear HX HY c1
            go_wp2
            go_ret
            exact ⟨ret_bool HE.out.symm, rfl⟩
      · have HE := HX.out (by unfold frB; rw [b1, decide_eq_false c2]; rfl)
        have HE2 : Hid (a = (s.data.toList.drop (k + 1)).all (fun b => frB fd b.toNat)) := HE
        clear HX HY HE c1
        go_wp2
        go_roundg (gk - 1)
        case measure => have := HG.out; omega
        case rel => exact ⟨k + 1, by have := HG.out; omega, by go_num, HE2.out, rfl⟩
    · have HE : Hid (F = L) := by show _ = _; rw [HF.out, HK.out, List.drop_eq_nil_of_le (by rw [HSz.out]; omega)]; rfl
      clear HK hk HA
      go_wp2_with (go_at_call 36; refine HL.out.mono ?_; rintro e w9 ⟨rfl, h9⟩; have h9s := h9.symm; clear h9; subst h9s)
      go_ret
      exact ⟨ret_bool HE.out.symm, rfl⟩

theorem hd_at (U : ByteArray) (h : 0 < U.size) : hdB U.data.toList = (((U[0]'h).toNat : Int) != 35 && ((U[0]'h).toNat : Int) != 45) := by
  have hd := drop20 h
  rw [List.drop_zero] at hd
  rw [hd]; rfl
set_option maxHeartbeats 3200000 in
theorem rName21_any (s : ByteArray) (w : World) (hs : s.size ≤ 281474976710656) :
    Calls Tryd.prog 25 #[.string s] w fun e w' => e = .returned (.bool (nameF s.data.toList)) ∧ w' = w := by
  have HF : Hid (nameF s.data.toList = (s.data.toList.all (fun b => nmB b.toNat) && hdB s.data.toList)) := rfl
  have HSz : Hid (s.data.toList.length = s.size) := size20 s
  have HA : Hid (s.data.toList.all (fun b => nmB b.toNat) = (s.data.toList.drop 0).all (fun b => nmB b.toNat)) := rfl
  generalize nameF s.data.toList = F at *
  generalize hA : s.data.toList.all (fun b => nmB b.toNat) = a at *
  clear hA
  go_enter Tryd.func25, Tryd.ntmps25
  go_wp2
  go_loopg [3] s.size (fun g i wr => ∃ k : Nat, k + g = s.size ∧ i = .int .i64 k ∧ Hid (a = (s.data.toList.drop k).all (fun b => nmB b.toNat)) ∧ w = wr)
  case atStart => exact ⟨0, by omega, rfl, HA.out, rfl⟩
  case round =>
    obtain ⟨k, hk, rfl, HK, hw⟩ := hrel
    subst hw
    have HG : Hid (k + gk = s.size) := hk
    by_cases hlt : k < s.size
    · have hd := drop20 hlt
      have HK2 : Hid (a = (nmB (s[k]'hlt).toNat && (s.data.toList.drop (k + 1)).all (fun b => nmB b.toNat))) := by show _ = _; rw [HK.out, hd, List.all_cons]
      clear hk HK hd HA
      obtain ⟨z, hz⟩ : ∃ z : Int, z = (((s[k]'hlt).toNat : Nat) : Int) := ⟨_, rfl⟩
      have hzz : (((s[k]'hlt).toNat : Nat) : Int) = z := hz.symm
      rw [← hz] at HK2
      clear hz
      have HX : Hid (nmB z = true → a = (s.data.toList.drop (k + 1)).all (fun b => nmB b.toNat)) := fun h => by rw [HK2.out, h]; rfl
      have HY : Hid (nmB z = false → F = false) := fun h => by rw [HF.out, HK2.out, h]; rfl
      have HU : Hid (nmB z = !(decide (z < 33) || decide (126 < z) || z == 58)) := rfl
      clear HK2
      by_cases c1 : z < 33
      · have HE : Hid (F = false) := HY.out (by rw [HU.out, decide_eq_true c1]; rfl)
        clear HX HY HU
        go_wp2
        go_ret
        exact ⟨ret_bool HE.out.symm, rfl⟩
      by_cases c2 : 126 < z
      · have HE : Hid (F = false) := HY.out (by rw [HU.out, decide_eq_true c2, decide_eq_false c1]; rfl)
        clear HX HY HU
        go_wp2
        go_ret
        exact ⟨ret_bool HE.out.symm, rfl⟩
      by_cases c3 : z = 58
      · subst c3
        have HE : Hid (F = false) := HY.out (by rfl)
        clear HX HY HU c1 c2
        go_wp2
        go_ret
        exact ⟨ret_bool HE.out.symm, rfl⟩
      have b3 : (z == 58) = false := by simpa using c3
      have HE := HX.out (by rw [HU.out, decide_eq_false c2, decide_eq_false c1, b3]; rfl)
      have HE2 : Hid (a = (s.data.toList.drop (k + 1)).all (fun b => nmB b.toNat)) := HE
      clear HX HY HE HU c3
      go_wp2
      go_roundg (gk - 1)
      case measure => have := HG.out; omega
      case rel => exact ⟨k + 1, by have := HG.out; omega, by go_num, HE2.out, rfl⟩
    · have HE : Hid (F = hdB s.data.toList) := by show _ = _; rw [HF.out, HK.out, List.drop_eq_nil_of_le (by rw [HSz.out]; omega)]; rfl
      clear HK hk HA
      by_cases h0 : 0 < s.size
      · have HH : Hid (F = (((s[0]'h0).toNat : Int) != 35 && ((s[0]'h0).toNat : Int) != 45)) := by show _ = _; rw [HE.out]; exact hd_at s h0
        have h0i : (0 : Int) < s.size := by omega
        clear HE
        obtain ⟨z, hz⟩ : ∃ z : Int, z = (((s[0]'h0).toNat : Nat) : Int) := ⟨_, rfl⟩
        have hzz : (((s[0]'h0).toNat : Nat) : Int) = z := hz.symm
        rw [← hz] at HH
        clear hz
        cases h1 : (z != 35) <;> cases h2 : (z != 45)
        all_goals
          go_wp2
          go_ret
          exact ⟨ret_bool (by rw [HH.out, h1, h2]; rfl), rfl⟩
      · have hH : Hid (F = false) := by
          show _ = _
          rw [HE.out, show s.data.toList = [] from List.eq_nil_of_length_eq_zero (by rw [size20]; omega)]
          rfl
        clear HE
        go_wp2
        go_ret
        exact ⟨ret_bool hH.out.symm, rfl⟩

theorem low3 {x l : Int} (h : l = if 65 ≤ x ∧ x ≤ 90 then x + 32 else x) : (x < 65 ∧ l = x) ∨ (65 ≤ x ∧ x ≤ 90 ∧ l = x + 32) ∨ (65 ≤ x ∧ 90 < x ∧ l = x) := by
  split at h
  · exact .inr (.inl ⟨by omega, by omega, h⟩)
  · by_cases h1 : x < 65
    · exact .inl ⟨h1, h⟩
    · exact .inr (.inr ⟨by omega, by omega, h⟩)
theorem low_range (z : Int) (h0 : 0 ≤ z) (h1 : z < 256) : 0 ≤ lowZ z ∧ lowZ z < 256 := by unfold lowZ; split <;> omega
set_option maxHeartbeats 3200000 in
theorem rAlike21_any (s t : ByteArray) (w : World) (hs : s.size ≤ 281474976710656) :
    Calls Tryd.prog 43 #[.string s, .string t] w fun e w' => e = .returned (.bool (alkF s.data.toList t.data.toList)) ∧ Below w.heap.size w w' := by
  have HSz : Hid (s.data.toList.length = s.size) := size20 s
  have HTz : Hid (t.data.toList.length = t.size) := size20 t
  obtain ⟨F, hF⟩ : ∃ F, F = alkF s.data.toList t.data.toList := ⟨_, rfl⟩
  rw [← hF]
  by_cases hlen : s.size = t.size
  case neg =>
    have HE : Hid (F = false) := by show _ = _; rw [hF]; exact alkF_len (by rw [HSz.out, HTz.out]; exact hlen)
    have hn : ((s.size : Int) == (t.size : Int)) = false := by simp; omega
    have hn2 : ((s.size : Int) != (t.size : Int)) = true := by simp; omega
    clear hF
    go_enter Tryd.func43, Tryd.ntmps43
    go_wp2
    go_ret
    exact ⟨ret_bool HE.out.symm, Below.refl _ _⟩
  have HA : Hid (F = alkF (s.data.toList.drop 0) (t.data.toList.drop 0)) := hF
  have hn : ((s.size : Int) == (t.size : Int)) = true := by simp; omega
  have hn2 : ((s.size : Int) != (t.size : Int)) = false := by simp; omega
  have HLen : Hid (s.size = t.size) := hlen
  clear hF hlen
  go_enter Tryd.func43, Tryd.ntmps43
  go_wp2
  go_loopg [5, 6, 7] s.size (fun g i x y wr => ∃ k : Nat, k + g = s.size ∧ i = .int .i64 k ∧ Hid (F = alkF (s.data.toList.drop k) (t.data.toList.drop k)) ∧ Hid (Below w.heap.size w wr))
  case atStart => exact ⟨0, by omega, rfl, HA.out, Below.refl _ _⟩
  case round =>
    obtain ⟨k, hk, rfl, HK, HB⟩ := hrel
    have HG : Hid (k + gk = s.size) := hk
    clear HA
    by_cases hlt : k < s.size
    · have hlt2 : k < t.size := by have := HLen.out; omega
      have hd := drop20 hlt
      have hd2 := drop20 hlt2
      have hX : F = ((lowZ (s[k]'hlt).toNat == lowZ (t[k]'hlt2).toNat) && alkF (s.data.toList.drop (k + 1)) (t.data.toList.drop (k + 1))) := by rw [HK.out, hd, hd2]; rfl
      have hr1 : 0 ≤ (((s[k]'hlt).toNat : Nat) : Int) ∧ (((s[k]'hlt).toNat : Nat) : Int) < 256 := ⟨by omega, by have := (s[k]'hlt).toNat_lt; omega⟩
      have hr2 : 0 ≤ (((t[k]'hlt2).toNat : Nat) : Int) ∧ (((t[k]'hlt2).toNat : Nat) : Int) < 256 := ⟨by omega, by have := (t[k]'hlt2).toNat_lt; omega⟩
      clear hd hd2 HK hk
      obtain ⟨x, hx⟩ : ∃ x : Int, x = (((s[k]'hlt).toNat : Nat) : Int) := ⟨_, rfl⟩
      obtain ⟨y, hy⟩ : ∃ y : Int, y = (((t[k]'hlt2).toNat : Nat) : Int) := ⟨_, rfl⟩
      have hxx : (((s[k]'hlt).toNat : Nat) : Int) = x := hx.symm
      have hyy : (((t[k]'hlt2).toNat : Nat) : Int) = y := hy.symm
      rw [← hx, ← hy] at hX
      rw [← hx] at hr1
      rw [← hy] at hr2
      have HX : Hid (F = ((lowZ x == lowZ y) && alkF (s.data.toList.drop (k + 1)) (t.data.toList.drop (k + 1)))) := hX
      have HLx : Hid (lowZ x = if 65 ≤ x ∧ x ≤ 90 then x + 32 else x) := rfl
      have HLy : Hid (lowZ y = if 65 ≤ y ∧ y ≤ 90 then y + 32 else y) := rfl
      clear hx hy hX
      generalize lowZ x = lx at *
      generalize lowZ y = ly at *
      go_wp2_with fail
      go_quiet (fail)
      have HBq : Hid (Below w.heap.size w (wr.drewN nq)) := HB.out.trans ⟨rfl, rfl, rfl, Nat.le_refl _, fun _ _ => rfl⟩
      generalize wr.drewN nq = wq at *
      clear HB hxx hyy
      have hx3 := low3 HLx.out
      have hy3 := low3 HLy.out
      clear HLx HLy
      by_cases hq : lx = ly
      · have q1 : (lx != ly) = false := by simpa using hq
        have HE : Hid (F = alkF (s.data.toList.drop (k + 1)) (t.data.toList.drop (k + 1))) := by show _ = _; rw [HX.out, hq]; simp
        clear HX hq
        rcases hx3 with ⟨a1, e1⟩ | ⟨a1, a2, e1⟩ | ⟨a1, a2, e1⟩ <;> rcases hy3 with ⟨b1, e2⟩ | ⟨b1, b2, e2⟩ | ⟨b1, b2, e2⟩
        all_goals
          rw [e1, e2] at q1
          clear e1 e2
          go_wp2
          go_roundg (gk - 1)
          case measure => have := HG.out; omega
          case rel => exact ⟨k + 1, by have := HG.out; omega, by go_num, HE.out, HBq.out⟩
      · have q1 : (lx != ly) = true := by simpa using hq
        have HE : Hid (F = false) := by show _ = _; rw [HX.out, beq_eq_false_iff_ne.2 hq]; rfl
        clear HX hq
        rcases hx3 with ⟨a1, e1⟩ | ⟨a1, a2, e1⟩ | ⟨a1, a2, e1⟩ <;> rcases hy3 with ⟨b1, e2⟩ | ⟨b1, b2, e2⟩ | ⟨b1, b2, e2⟩
        all_goals
          rw [e1, e2] at q1
          clear e1 e2
          go_wp2
          go_ret
          exact ⟨ret_bool HE.out.symm, HBq.out⟩
    · have HE : Hid (F = true) := by show _ = _; rw [HK.out, List.drop_eq_nil_of_le (by rw [HSz.out]; omega), List.drop_eq_nil_of_le (by rw [HTz.out, ← HLen.out]; omega)]; rfl
      clear HK hk
      go_wp2
      go_ret
      exact ⟨ret_bool HE.out.symm, HB.out⟩

end Go.Proofs.YtblkhkfjaggnfaaDoor
