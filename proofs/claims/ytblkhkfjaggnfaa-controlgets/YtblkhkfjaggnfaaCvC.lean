/-
  control: alike, folded, isName, strings.Split at a line feed, strings.Cut at a byte, walked.
  KEEP: len below nil form rd mono on app start at new trans refl kept own row out grown rdz set one more lt size cell some none letL tail next step go add put del get look no yes e c f b k n m box Ltr
-/
import Derived.Test.YtblkhkfjaggnfaaCvA
import Derived.Test.YtblkhkfjaggnfaaCtN
set_option linter.unusedSimpArgs false
set_option linter.unusedVariables false
namespace Go.Proofs.Ytblkhkfjaggnfaa
open Go Go.RowKit

set_option maxHeartbeats 3200000 in
set_option maxRecDepth 100000 in
theorem alike21 (s t : ByteArray) (w : World) (hs : s.size ≤ 281474976710656) :
    Calls Try.prog 7 #[.string s, .string t] w fun e w' => e = .returned (.bool (alkF s.data.toList t.data.toList)) ∧ Below w.heap.size w w' := by
  have HSz : Hid (s.data.toList.length = s.size) := size20 s
  have HTz : Hid (t.data.toList.length = t.size) := size20 t
  obtain ⟨F, hF⟩ : ∃ F, F = alkF s.data.toList t.data.toList := ⟨_, rfl⟩
  rw [← hF]
  by_cases hlen : s.size = t.size
  case neg =>
    have HE : Hid (F = false) := by show _ = _; rw [hF]; exact alkF_len (by rw [HSz.out, HTz.out]; exact hlen)
    have hn : ((s.size : Int) == (t.size : Int)) = false := by simp; omega
    have hn2 : ((s.size : Int) != (t.size : Int)) = true := by simp; omega
    clear hF
    go_enter Try.func7, Try.ntmps7
    go_wp2
    go_ret
    exact ⟨ret_bool HE.out.symm, Below.refl _ _⟩
  have HA : Hid (F = alkF (s.data.toList.drop 0) (t.data.toList.drop 0)) := hF
  have hn : ((s.size : Int) == (t.size : Int)) = true := by simp; omega
  have hn2 : ((s.size : Int) != (t.size : Int)) = false := by simp; omega
  have HLen : Hid (s.size = t.size) := hlen
  clear hF hlen
  go_enter Try.func7, Try.ntmps7
  go_wp2
  go_loopg [5, 13] s.size (fun g x i wr => ∃ k : Nat, k + g = s.size ∧ i = .int .i64 k ∧ Hid (F = alkF (s.data.toList.drop k) (t.data.toList.drop k)) ∧ Hid (Below w.heap.size w wr))
  case atStart => exact ⟨0, by omega, rfl, HA.out, Below.refl _ _⟩
  case round =>
    obtain ⟨k, hk, rfl, HK, HB⟩ := hrel
    have HG : Hid (k + gk = s.size) := hk
    clear HA
    by_cases hlt : k < s.size
    · have hlt2 : k < t.size := by have := HLen.out; omega
      have hd := drop20 hlt
      have hd2 := drop20 hlt2
      have hX : F = ((lowZ (s[k]'hlt).toNat == lowZ (t[k]'hlt2).toNat) && alkF (s.data.toList.drop (k + 1)) (t.data.toList.drop (k + 1))) := by rw [HK.out, hd, hd2]; rfl
      have hr1 : 0 ≤ (((s[k]'hlt).toNat : Nat) : Int) ∧ (((s[k]'hlt).toNat : Nat) : Int) < 256 := ⟨by omega, by have := (s[k]'hlt).toNat_lt; omega⟩
      have hr2 : 0 ≤ (((t[k]'hlt2).toNat : Nat) : Int) ∧ (((t[k]'hlt2).toNat : Nat) : Int) < 256 := ⟨by omega, by have := (t[k]'hlt2).toNat_lt; omega⟩
      clear hd hd2 HK hk
      obtain ⟨x, hx⟩ : ∃ x : Int, x = (((s[k]'hlt).toNat : Nat) : Int) := ⟨_, rfl⟩
      obtain ⟨y, hy⟩ : ∃ y : Int, y = (((t[k]'hlt2).toNat : Nat) : Int) := ⟨_, rfl⟩
      have hxx : (((s[k]'hlt).toNat : Nat) : Int) = x := hx.symm
      have hyy : (((t[k]'hlt2).toNat : Nat) : Int) = y := hy.symm
      rw [← hx, ← hy] at hX
      rw [← hx] at hr1
      rw [← hy] at hr2
      have HX : Hid (F = ((lowZ x == lowZ y) && alkF (s.data.toList.drop (k + 1)) (t.data.toList.drop (k + 1)))) := hX
      have HMx : Hid (∀ W, Calls Try.prog 10 #[.int .u8 x] W fun e w' => e = .returned (.int .u8 (lowZ x)) ∧ w' = W) := fun W => small21 x W hr1.1 hr1.2
      have HMy : Hid (∀ W, Calls Try.prog 10 #[.int .u8 y] W fun e w' => e = .returned (.int .u8 (lowZ y)) ∧ w' = W) := fun W => small21 y W hr2.1 hr2.2
      clear hx hy hX
      generalize lowZ x = lx at *
      generalize lowZ y = ly at *
      go_wp2_with fail
      go_quiet ((go_at_call 10; first | (with_reducible exact Calls.quiet_of_same (HMx.out _)) | (with_reducible exact Calls.quiet_of_same (HMy.out _))))
      have HBq : Hid (Below w.heap.size w (wr.drewN nq)) := HB.out.trans ⟨rfl, rfl, rfl, Nat.le_refl _, fun _ _ => rfl⟩
      generalize wr.drewN nq = wq at *
      clear HB hxx hyy
      by_cases hq : lx = ly
      · have q1 : (lx != ly) = false := by simpa using hq
        have HE : Hid (F = alkF (s.data.toList.drop (k + 1)) (t.data.toList.drop (k + 1))) := by show _ = _; rw [HX.out, hq]; simp
        clear HX hq
        go_wp2
        go_roundg (gk - 1)
        case measure => have := HG.out; omega
        case rel => exact ⟨k + 1, by have := HG.out; omega, by go_num, HE.out, HBq.out⟩
      · have q1 : (lx != ly) = true := by simpa using hq
        have HE : Hid (F = false) := by show _ = _; rw [HX.out, beq_eq_false_iff_ne.2 hq]; rfl
        clear HX hq
        go_wp2
        go_ret
        exact ⟨ret_bool HE.out.symm, HBq.out⟩
    · have HE : Hid (F = true) := by show _ = _; rw [HK.out, List.drop_eq_nil_of_le (by rw [HSz.out]; omega), List.drop_eq_nil_of_le (by rw [HTz.out, ← HLen.out]; omega)]; rfl
      clear HK hk
      go_wp2
      go_ret
      exact ⟨ret_bool HE.out.symm, HB.out⟩

end Go.Proofs.Ytblkhkfjaggnfaa
