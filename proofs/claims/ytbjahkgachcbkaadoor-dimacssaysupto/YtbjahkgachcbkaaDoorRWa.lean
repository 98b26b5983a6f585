/-
  depotref03.WriteAnswer, walked.
-/
import Derived.Test.YtbjahkgachcbkaaDoorRWr
import Derived.Test.YtbjahkgachcbkaaDoorTruth
set_option linter.unusedSimpArgs false
set_option linter.unusedVariables false
namespace Go.Proofs.YtbjahkgachcbkaaDoor
open Go Go.RowKit Go.Lib Go.Sort

/-- what is put behind k numbers, the 0 among them -/
def putX (m : List Bool) (k : Nat) : List UInt8 × List UInt8 := if k ≤ m.length then putTo m k else putN (putTo m m.length) 0
theorem putX_next (m : List Bool) (k : Nat) (h : k < m.length) : putX m (k + 1) = putN (putX m k) (numAt m k) := by
  unfold putX; rw [if_pos (by omega), if_pos (by omega), putTo_succ]
theorem putX_last (m : List Bool) : putX m (m.length + 1) = putN (putX m m.length) 0 := by
  unfold putX; rw [if_neg (by omega), if_pos (Nat.le_refl _)]
theorem putX_len (m : List Bool) (k : Nat) (h : k ≤ m.length) (hm : m.length ≤ 1048576) : (putX m k).1.length + (putX m k).2.length ≤ 100000000 := by
  unfold putX; rw [if_pos h]
  have := putTo_len m k (by omega)
  omega

set_option maxHeartbeats 3200000 in
set_option maxRecDepth 100000 in
theorem rWriteAnswer_any (sat : Bool) (vm : Value) (m : List Bool) (w : World) (hm : RdB w vm m) (hl : m.length ≤ 1048576) (ht : TensY w) :
    Calls Tryd.prog 20 #[.bool sat, vm] w fun e w' => e = .returned (.string ⟨(ansF sat m).toArray⟩) ∧ RowKit.Below w.heap.size w w' := by
  have HM : Hid (RdB w vm m) := hm
  have HT : Hid (TensY w) := ht
  obtain ⟨am, cm, rfl, -⟩ := hm.form
  clear hm ht
  cases sat
  · go_enter Tryd.func20, Tryd.ntmps20
    go_wp2
    go_ret
    exact ⟨rfl, RowKit.Below.refl _ _⟩
  go_enter Tryd.func20, Tryd.ntmps20
  go_wp2
  go_loopg [5, 6, 7] (m.length + 1) (fun g s ln i wr => ∃ k : Nat, k + g = m.length + 1 ∧ i = .int .i64 k ∧ s = .string ⟨(putX m k).1.toArray⟩ ∧ ln = .string ⟨(putX m k).2.toArray⟩ ∧ RowKit.Below w.heap.size w wr)
  case atStart => exact ⟨0, by omega, rfl, by simp [putX, putTo, satL], by simp [putX, putTo], RowKit.Below.refl _ _⟩
  case round =>
    obtain ⟨k, hk, rfl, rfl, rfl, bel⟩ := hrel
    have HK : Hid (k + gk = m.length + 1) := hk
    by_cases hle : k ≤ m.length
    · have hlen := putX_len m k hle hl
      obtain ⟨a', c', e', hcell⟩ := (HM.out.below bel).form
      have e3 : a' = am ∧ c' = cm := by injection e' with q1 q2 q3; exact ⟨q1.symm, q3.symm⟩
      obtain ⟨rfl, rfl⟩ := e3
      by_cases hlt : k < m.length
      · obtain ⟨b, off, rfl, hck⟩ := hcell k hlt
        have HNx0 : Hid (putX m (k + 1) = putN (putX m k) (numAt m k)) := putX_next m k hlt
        cases hb : m.getD k false
        · have HNx : Hid (putX m (k + 1) = putN (putX m k) (-((k : Int) + 1))) := by show _ = _; rw [HNx0.out]; unfold numAt; rw [hb]; rfl
          rw [hb] at hck
          clear hk hcell e' hb HNx0
          generalize putX m k = st at *
          obtain ⟨s1, s2⟩ := st
          simp only at *

          have hil := Lib.itoa_length_le (-((k : Int) + 1)) (by omega) (by omega)
          have HI2 : Hid (Calls Tryd.prog 34 #[.int .i64 (-((k : Int) + 1))] wr fun e w' => e = .returned (.string ⟨(Lib.itoa (-((k : Int) + 1))).toArray⟩) ∧ RowKit.Below wr.heap.size wr w') := itoa_any (-((k : Int) + 1)) (by omega) (by omega) wr (HT.out.below bel)
          have HPN : Hid (putX m (k + 1) = putW (s1, s2) (Lib.itoa (-((k : Int) + 1)))) := by show _ = _; rw [HNx.out]; rfl
          generalize Lib.itoa (-((k : Int) + 1)) = d at *
          obtain ⟨wd, hwd⟩ : ∃ X, X = [32] ++ d := ⟨_, rfl⟩
          have lw : wd.length = 1 + d.length := by rw [hwd]; simp; omega
          have hwb : wd.length ≤ 22 := by omega
          have hs2b : s2.length ≤ 100000000 := by omega
          have hs1b : s1.length ≤ 100000000 := by omega
          have k1 := cat_run [32] d wd hwd (by simp; omega)
          cases hq : decide (78 < s2.length + wd.length)
          · have HP2 : Hid (putX m (k + 1) = (s1, s2 ++ wd)) := by
              show _ = _
              rw [HPN.out]; unfold putW; rw [if_neg (by have := of_decide_eq_false hq; simp only; omega), hwd]; simp
            have k2 := cat_run s2 wd (s2 ++ wd) rfl (by omega)
            have hqi : decide ((78 : Int) < (s2.length : Int) + (wd.length : Int)) = false := decide_eq_false (by have := of_decide_eq_false hq; omega)
            clear hwd HPN lw
            go_wp2_with (go_at_call 34; refine HI2.out.mono ?_; rintro e w5 ⟨rfl, bel5⟩)
            go_roundg (gk - 1)
            case measure => have := HK.out; omega
            case rel => exact ⟨k + 1, by have := HK.out; omega, by go_num, by rw [HP2.out], by rw [HP2.out], Below.step bel bel5⟩
          · have HP2 : Hid (putX m (k + 1) = (s1 ++ s2 ++ [10], [118] ++ wd)) := by
              show _ = _
              rw [HPN.out]; unfold putW; rw [if_pos (by have := of_decide_eq_true hq; simp only; omega), hwd]; simp
            obtain ⟨X1, hX1⟩ : ∃ X, X = s1 ++ s2 := ⟨_, rfl⟩
            have lX : X1.length = s1.length + s2.length := by rw [hX1]; simp
            have k2 := cat_run s1 s2 X1 hX1 (by omega)
            have k3 := cat_run X1 [10] (s1 ++ s2 ++ [10]) (by rw [hX1]) (by simp; omega)
            have k4 := cat_run [118] wd ([118] ++ wd) rfl (by simp; omega)
            have hqi : decide ((78 : Int) < (s2.length : Int) + (wd.length : Int)) = true := decide_eq_true (by have := of_decide_eq_true hq; omega)
            clear hwd HPN lw hX1 lX
            go_wp2_with (go_at_call 34; refine HI2.out.mono ?_; rintro e w5 ⟨rfl, bel5⟩)
            go_roundg (gk - 1)
            case measure => have := HK.out; omega
            case rel => exact ⟨k + 1, by have := HK.out; omega, by go_num, by rw [HP2.out]; simp, by rw [HP2.out]; simp, Below.step bel bel5⟩

        · have HNx : Hid (putX m (k + 1) = putN (putX m k) ((k : Int) + 1)) := by show _ = _; rw [HNx0.out]; unfold numAt; rw [hb]; rfl
          rw [hb] at hck
          clear hk hcell e' hb HNx0
          generalize putX m k = st at *
          obtain ⟨s1, s2⟩ := st
          simp only at *

          have hil := Lib.itoa_length_le ((k : Int) + 1) (by omega) (by omega)
          have HI2 : Hid (Calls Tryd.prog 34 #[.int .i64 ((k : Int) + 1)] wr fun e w' => e = .returned (.string ⟨(Lib.itoa ((k : Int) + 1)).toArray⟩) ∧ RowKit.Below wr.heap.size wr w') := itoa_any ((k : Int) + 1) (by omega) (by omega) wr (HT.out.below bel)
          have HPN : Hid (putX m (k + 1) = putW (s1, s2) (Lib.itoa ((k : Int) + 1))) := by show _ = _; rw [HNx.out]; rfl
          generalize Lib.itoa ((k : Int) + 1) = d at *
          obtain ⟨wd, hwd⟩ : ∃ X, X = [32] ++ d := ⟨_, rfl⟩
          have lw : wd.length = 1 + d.length := by rw [hwd]; simp; omega
          have hwb : wd.length ≤ 22 := by omega
          have hs2b : s2.length ≤ 100000000 := by omega
          have hs1b : s1.length ≤ 100000000 := by omega
          have k1 := cat_run [32] d wd hwd (by simp; omega)
          cases hq : decide (78 < s2.length + wd.length)
          · have HP2 : Hid (putX m (k + 1) = (s1, s2 ++ wd)) := by
              show _ = _
              rw [HPN.out]; unfold putW; rw [if_neg (by have := of_decide_eq_false hq; simp only; omega), hwd]; simp
            have k2 := cat_run s2 wd (s2 ++ wd) rfl (by omega)
            have hqi : decide ((78 : Int) < (s2.length : Int) + (wd.length : Int)) = false := decide_eq_false (by have := of_decide_eq_false hq; omega)
            clear hwd HPN lw
            go_wp2_with (go_at_call 34; refine HI2.out.mono ?_; rintro e w5 ⟨rfl, bel5⟩)
            go_roundg (gk - 1)
            case measure => have := HK.out; omega
            case rel => exact ⟨k + 1, by have := HK.out; omega, by go_num, by rw [HP2.out], by rw [HP2.out], Below.step bel bel5⟩
          · have HP2 : Hid (putX m (k + 1) = (s1 ++ s2 ++ [10], [118] ++ wd)) := by
              show _ = _
              rw [HPN.out]; unfold putW; rw [if_pos (by have := of_decide_eq_true hq; simp only; omega), hwd]; simp
            obtain ⟨X1, hX1⟩ : ∃ X, X = s1 ++ s2 := ⟨_, rfl⟩
            have lX : X1.length = s1.length + s2.length := by rw [hX1]; simp
            have k2 := cat_run s1 s2 X1 hX1 (by omega)
            have k3 := cat_run X1 [10] (s1 ++ s2 ++ [10]) (by rw [hX1]) (by simp; omega)
            have k4 := cat_run [118] wd ([118] ++ wd) rfl (by simp; omega)
            have hqi : decide ((78 : Int) < (s2.length : Int) + (wd.length : Int)) = true := decide_eq_true (by have := of_decide_eq_true hq; omega)
            clear hwd HPN lw hX1 lX
            go_wp2_with (go_at_call 34; refine HI2.out.mono ?_; rintro e w5 ⟨rfl, bel5⟩)
            go_roundg (gk - 1)
            case measure => have := HK.out; omega
            case rel => exact ⟨k + 1, by have := HK.out; omega, by go_num, by rw [HP2.out]; simp, by rw [HP2.out]; simp, Below.step bel bel5⟩

      · obtain rfl : k = m.length := by omega
        have HNx : Hid (putX m (m.length + 1) = putN (putX m m.length) 0) := putX_last m
        clear hk hcell e'
        generalize putX m m.length = st at *
        obtain ⟨s1, s2⟩ := st
        simp only at *

        have hil := Lib.itoa_length_le (0) (by omega) (by omega)
        have HI2 : Hid (Calls Tryd.prog 34 #[.int .i64 (0)] wr fun e w' => e = .returned (.string ⟨(Lib.itoa (0)).toArray⟩) ∧ RowKit.Below wr.heap.size wr w') := itoa_any (0) (by omega) (by omega) wr (HT.out.below bel)
        have HPN : Hid (putX m (m.length + 1) = putW (s1, s2) (Lib.itoa (0))) := by show _ = _; rw [HNx.out]; rfl
        generalize Lib.itoa (0) = d at *
        obtain ⟨wd, hwd⟩ : ∃ X, X = [32] ++ d := ⟨_, rfl⟩
        have lw : wd.length = 1 + d.length := by rw [hwd]; simp; omega
        have hwb : wd.length ≤ 22 := by omega
        have hs2b : s2.length ≤ 100000000 := by omega
        have hs1b : s1.length ≤ 100000000 := by omega
        have k1 := cat_run [32] d wd hwd (by simp; omega)
        cases hq : decide (78 < s2.length + wd.length)
        · have HP2 : Hid (putX m (m.length + 1) = (s1, s2 ++ wd)) := by
            show _ = _
            rw [HPN.out]; unfold putW; rw [if_neg (by have := of_decide_eq_false hq; simp only; omega), hwd]; simp
          have k2 := cat_run s2 wd (s2 ++ wd) rfl (by omega)
          have hqi : decide ((78 : Int) < (s2.length : Int) + (wd.length : Int)) = false := decide_eq_false (by have := of_decide_eq_false hq; omega)
          clear hwd HPN lw
          go_wp2_with (go_at_call 34; refine HI2.out.mono ?_; rintro e w5 ⟨rfl, bel5⟩)
          go_roundg (gk - 1)
          case measure => have := HK.out; omega
          case rel => exact ⟨m.length + 1, by have := HK.out; omega, by go_num, by rw [HP2.out], by rw [HP2.out], Below.step bel bel5⟩
        · have HP2 : Hid (putX m (m.length + 1) = (s1 ++ s2 ++ [10], [118] ++ wd)) := by
            show _ = _
            rw [HPN.out]; unfold putW; rw [if_pos (by have := of_decide_eq_true hq; simp only; omega), hwd]; simp
          obtain ⟨X1, hX1⟩ : ∃ X, X = s1 ++ s2 := ⟨_, rfl⟩
          have lX : X1.length = s1.length + s2.length := by rw [hX1]; simp
          have k2 := cat_run s1 s2 X1 hX1 (by omega)
          have k3 := cat_run X1 [10] (s1 ++ s2 ++ [10]) (by rw [hX1]) (by simp; omega)
          have k4 := cat_run [118] wd ([118] ++ wd) rfl (by simp; omega)
          have hqi : decide ((78 : Int) < (s2.length : Int) + (wd.length : Int)) = true := decide_eq_true (by have := of_decide_eq_true hq; omega)
          clear hwd HPN lw hX1 lX
          go_wp2_with (go_at_call 34; refine HI2.out.mono ?_; rintro e w5 ⟨rfl, bel5⟩)
          go_roundg (gk - 1)
          case measure => have := HK.out; omega
          case rel => exact ⟨m.length + 1, by have := HK.out; omega, by go_num, by rw [HP2.out]; simp, by rw [HP2.out]; simp, Below.step bel bel5⟩

    · obtain rfl : k = m.length + 1 := by omega
      have HL : Hid (putX m (m.length + 1) = putN (putTo m m.length) 0) := by show _ = _; unfold putX; rw [if_neg (by omega)]
      have hlen : (putX m (m.length + 1)).1.length + (putX m (m.length + 1)).2.length ≤ 100000100 := by
        rw [HL.out]
        have h1 := putTo_len m m.length (by omega)
        have h2 := putN_len (putTo m m.length) 0 (by omega) (by omega)
        omega
      have HA : Hid (ansF true m = ((putX m (m.length + 1)).1 ++ (putX m (m.length + 1)).2) ++ [10]) := by show _ = _; rw [HL.out]; rfl
      clear hk
      generalize putX m (m.length + 1) = st at *
      obtain ⟨s1, s2⟩ := st
      simp only at *
      obtain ⟨X1, hX1⟩ : ∃ X, X = s1 ++ s2 := ⟨_, rfl⟩
      have lX : X1.length = s1.length + s2.length := by rw [hX1]; simp
      have k2 := cat_run s1 s2 X1 hX1 (by omega)
      have k3 := cat_run X1 [10] (ansF true m) (by rw [hX1]; exact HA.out) (by simp; omega)
      clear hX1 lX HA HL
      go_wp2
      go_ret
      exact ⟨rfl, bel⟩

end Go.Proofs.YtbjahkgachcbkaaDoor
