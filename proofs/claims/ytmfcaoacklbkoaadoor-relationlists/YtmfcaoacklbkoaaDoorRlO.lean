/-
  The program's inName, Name, Formed, walked.
  KEEP: off c0 c1 c2 c3 c4 s0 s1 s2 s3 s4 newS rds lt f t q x len below nil form rd mono on app start at new trans refl kept own row out grown rdz set one more lt size cell some none letL tail next step go add put del get look no yes e c f b k n m box blw c0 c1 c2 s0 s1 s2 s3 newS
-/
import Derived.Test.YtmfcaoacklbkoaaDoorRlN
import Derived.Test.YtmfcaoacklbkoaaDoorRlQ
import Derived.Test.YtmfcaoacklbkoaaDoorVsC
set_option linter.unusedSimpArgs false
set_option linter.unusedVariables false
namespace Go.Proofs.YtmfcaoacklbkoaaDoor
open Go Go.RowKit

/-- may the byte stand in a name -/
def inZ (z : Int) (f : Bool) : Bool := pnZ z || (!f && (z == 43 || z == 45 || z == 46))
set_option maxHeartbeats 1600000 in
theorem inName22 (z : Int) (f : Bool) (w : World) : Calls Tryd.prog 43 #[.int .u8 z, .bool f] w fun e w' => e = .returned (.bool (inZ z f)) ∧ w' = w := by
  have HI : Hid (inZ z f = (((decide (97 ≤ z) && decide (z ≤ 122)) || (decide (48 ≤ z) && decide (z ≤ 57))) || (!f && (z == 43 || z == 45 || z == 46)))) := rfl
  generalize inZ z f = R at *
  by_cases a1 : 97 ≤ z ∧ z ≤ 122
  · obtain ⟨a1, a2⟩ := a1
    have HE : Hid (R = true) := by show _ = _; rw [HI.out, decide_eq_true a1, decide_eq_true a2]; rfl
    clear HI
    go_enter Tryd.func43, Tryd.ntmps43
    go_wp2
    go_ret
    exact ⟨ret_bool HE.out.symm, rfl⟩
  by_cases a2 : 48 ≤ z ∧ z ≤ 57
  · obtain ⟨a3, a4⟩ := a2
    have HE : Hid (R = true) := by show _ = _; rw [HI.out, decide_eq_true a3, decide_eq_true a4, Bool.and_true, Bool.or_true, Bool.true_or]
    clear HI a1
    have a5 : ¬ 97 ≤ z := by omega
    go_enter Tryd.func43, Tryd.ntmps43
    go_wp2
    go_ret
    exact ⟨ret_bool HE.out.symm, rfl⟩
  have hpn : ((decide (97 ≤ z) && decide (z ≤ 122)) || (decide (48 ≤ z) && decide (z ≤ 57))) = false := by simp; omega
  have HI2 : Hid (R = (!f && (z == 43 || z == 45 || z == 46))) := by show _ = _; rw [HI.out, hpn]; rfl
  clear HI hpn
  by_cases c : z = 43 ∨ z = 45 ∨ z = 46
  · have HE : Hid (R = !f) := by
      show _ = _
      rw [HI2.out]
      rcases c with rfl | rfl | rfl
      all_goals cases f <;> rfl
    clear HI2
    rcases c with rfl | rfl | rfl
    all_goals
      clear a1 a2
      go_enter Tryd.func43, Tryd.ntmps43
      go_wp2
      go_ret
      exact ⟨ret_bool HE.out.symm, rfl⟩
  · have d1 : (z == 43) = false := by simp; omega
    have d2 : (z == 45) = false := by simp; omega
    have d3 : (z == 46) = false := by simp; omega
    have HE : Hid (R = false) := by show _ = _; rw [HI2.out, d1, d2, d3]; cases f <;> rfl
    clear HI2 c
    by_cases b1 : 97 ≤ z
    · have b2 : ¬ z ≤ 122 := by omega
      have b3 : ¬ z ≤ 57 := by omega
      clear a1 a2
      by_cases b4 : 48 ≤ z
      all_goals
        go_enter Tryd.func43, Tryd.ntmps43
        go_wp2
        go_ret
        exact ⟨ret_bool HE.out.symm, rfl⟩
    · by_cases b4 : 48 ≤ z
      · have b3 : ¬ z ≤ 57 := by omega
        clear a1 a2
        go_enter Tryd.func43, Tryd.ntmps43
        go_wp2
        go_ret
        exact ⟨ret_bool HE.out.symm, rfl⟩
      · clear a1 a2
        go_enter Tryd.func43, Tryd.ntmps43
        go_wp2
        go_ret
        exact ⟨ret_bool HE.out.symm, rfl⟩

theorem rnA_step {s : ByteArray} {k : Nat} (h : k < s.size) : rnA k (s.data.toList.drop k) = (inZ ((s[k]'h).toNat : Int) (decide (k = 0)) && rnA (k + 1) (s.data.toList.drop (k + 1))) := by
  rw [drop20 h, rnA]
  have e : (k != 0) = !decide (k = 0) := by by_cases h0 : k = 0 <;> simp [h0]
  unfold inZ
  rw [e]
set_option maxHeartbeats 3200000 in
theorem pName22 (s : ByteArray) (w : World) (hs : s.size ≤ 281474976710656) :
    Calls Tryd.prog 28 #[.string s] w fun e w' => e = .returned (.bool (rnmF s.data.toList)) ∧ w' = w := by
  have HSz : Hid (s.data.toList.length = s.size) := size20 s
  have HF : Hid (rnmF s.data.toList = (decide (2 ≤ s.size) && rnA 0 (s.data.toList.drop 0))) := by show _ = _; unfold rnmF; rw [HSz.out, List.drop_zero]
  generalize rnmF s.data.toList = F at *
  have HIn : Hid (∀ z f, Calls Tryd.prog 43 #[.int .u8 z, .bool f] w fun e w' => e = .returned (.bool (inZ z f)) ∧ w' = w) := fun z f => inName22 z f w
  go_enter Tryd.func28, Tryd.ntmps28
  go_wp2
  go_loopg [6] s.size (fun g i wr => ∃ k : Nat, k + g = s.size ∧ i = .int .i64 k ∧ Hid (F = (decide (2 ≤ s.size) && rnA k (s.data.toList.drop k))) ∧ w = wr)
  case atStart => exact ⟨0, by omega, rfl, HF.out, rfl⟩
  case round =>
    obtain ⟨k, hk, rfl, HK, hw⟩ := hrel
    subst hw
    have HG : Hid (k + gk = s.size) := hk
    clear HF
    by_cases hlt : k < s.size
    · have HK2 : Hid (F = (decide (2 ≤ s.size) && (inZ ((s[k]'hlt).toNat : Int) (decide (k = 0)) && rnA (k + 1) (s.data.toList.drop (k + 1))))) := by show _ = _; rw [HK.out, rnA_step hlt]
      clear hk HK
      obtain ⟨z, hz⟩ : ∃ z : Int, z = (((s[k]'hlt).toNat : Nat) : Int) := ⟨_, rfl⟩
      have hzz : (((s[k]'hlt).toNat : Nat) : Int) = z := hz.symm
      rw [← hz] at HK2
      clear hz
      have hk0 : ((k : Int) == 0) = decide (k = 0) := by by_cases h0 : k = 0 <;> simp [h0]
      have HI2 : Hid (Calls Tryd.prog 43 #[.int .u8 z, .bool (decide (k = 0))] w fun e w' => e = .returned (.bool (inZ z (decide (k = 0)))) ∧ w' = w) := HIn.out _ _
      generalize decide (k = 0) = f at *
      cases hb : inZ z f
      · rw [hb] at HI2
        have HE : Hid (F = false) := by show _ = _; rw [HK2.out, hb, Bool.false_and, Bool.and_false]
        clear HK2 hb
        go_wp2_with (go_at_call 43; refine HI2.out.mono ?_; rintro e w9 ⟨rfl, h9⟩; have h9s := h9.symm; clear h9; subst h9s)
        go_ret
        exact ⟨ret_bool HE.out.symm, rfl⟩
      · rw [hb] at HI2
        have HE : Hid (F = (decide (2 ≤ s.size) && rnA (k + 1) (s.data.toList.drop (k + 1)))) := by show _ = _; rw [HK2.out, hb, Bool.true_and]
        clear HK2 hb
        go_wp2_with (go_at_call 43; refine HI2.out.mono ?_; rintro e w9 ⟨rfl, h9⟩; have h9s := h9.symm; clear h9; subst h9s)
        go_roundg (gk - 1)
        case measure => have := HG.out; omega
        case rel => exact ⟨k + 1, by have := HG.out; omega, by first | rfl | go_num, HE.out, rfl⟩
    · have HE : Hid (F = decide ((s.size : Int) ≥ 2)) := by
        show _ = _
        rw [HK.out, List.drop_eq_nil_of_le (by rw [HSz.out]; omega)]
        simp [rnA]; omega
      clear HK hk
      go_wp2
      go_ret
      exact ⟨ret_bool (by rw [HE.out]), rfl⟩

theorem emp22 (s : ByteArray) : s.data.toList.isEmpty = s.toList.isEmpty := by rw [ByteArray.toList_eq]
theorem sgF_emp (o : Int) : (sgF o).data.toList.isEmpty = !opK o := by
  unfold sgF opK
  repeat' split
  all_goals first | (subst_vars; rfl) | skip
  rw [decide_eq_false (by omega)]
  rfl
set_option maxHeartbeats 3200000 in
set_option maxRecDepth 20000 in
theorem pFormed22 (n : ByteArray) (o : Int) (v : ByteArray) (w : World) (hn : n.size ≤ 281474976710656) (hv : v.size ≤ 281474976710656) (hT : OpT w) :
    Calls Tryd.prog 11 #[.agg #[.string n, .int .i64 o, .string v]] w fun e w' => e = .returned (.bool (relB n o v)) ∧ Below w.heap.size w w' := by
  have HN : Hid (∀ V, Calls Tryd.prog 28 #[.string n] V fun e w' => e = .returned (.bool (rnmF n.data.toList)) ∧ w' = V) := fun V => pName22 n V hn
  have HL : Hid (∀ V, Calls Tryd.prog 38 #[.string v] V fun e w' => e = .returned (.bool (okS v)) ∧ Below V.heap.size V w') := fun V => legal20_any v V hv
  have HF : Hid (relB n o v = (rnmF n.data.toList && (if o = 0 then v.toList.isEmpty else opK o && okS v))) := by
    show _ = _
    unfold relB
    rw [sgF_emp, emp22, Bool.not_not]
  generalize relB n o v = F at *
  generalize rnmF n.data.toList = N at *
  generalize okS v = V at *
  have HO0 : Hid (∀ V, OpT V → Calls Tryd.prog 37 #[.int .i64 o] V fun e w' => OpAns V w' e (if opK o = true then o else 0) (sgF o) (opK o)) := fun V h => ofOp22 o V h
  go_enter Tryd.func11, Tryd.ntmps11
  go_wp2_with fail
  have HBa : Hid (Below w.heap.size w (w.alloc (.cells #[.string n, .int .i64 o, .string v] 34))) := Below.alloc (Below.refl _ _) (Nat.le_refl _) _
  have HTa : Hid (OpT (w.alloc (.cells #[.string n, .int .i64 o, .string v] 34))) := hT.blw HBa.out
  have HQ : Hid (Rq (w.alloc (.cells #[.string n, .int .i64 o, .string v] 34)) w.heap.size n o v) := Rq.newS _ _ _ _ _ rfl
  clear hT
  generalize w.alloc (.cells #[.string n, .int .i64 o, .string v] 34) = W at *
  have HO := HO0.out W HTa.out
  have hD := HQ.out.lt
  have c1 := HQ.out.c1
  have c2 := HQ.out.c2
  have HO' : Hid (Calls Tryd.prog 37 #[.int .i64 o] W fun e w' => OpAns W w' e (if opK o = true then o else 0) (sgF o) (opK o)) := HO
  clear HO HO0 HTa
  generalize (if opK o = true then o else 0) = O2 at *
  generalize sgF o = S2 at *
  generalize opK o = K at *
  refine (HN.out _).mono ?_
  rintro e w9 ⟨rfl, h9⟩
  have h9s := h9.symm; clear h9; subst h9s
  cases N
  · have HE : Hid (F = false) := HF.out
    clear HF
    go_wp2
    go_ret
    exact ⟨ret_bool HE.out.symm, HBa.out⟩
  by_cases h0 : o = 0
  · subst h0
    have HE : Hid (F = v.toList.isEmpty) := HF.out
    clear HF
    cases hb : v.toList.isEmpty
    · have hb2 : ¬ v.toList = [] := by simpa using hb
      have HE2 : Hid (F = false) := by show _ = _; rw [HE.out, hb]
      clear HE
      go_wp2
      go_ret
      exact ⟨ret_bool HE2.out.symm, HBa.out⟩
    · have hb2 : v.toList = [] := by simpa using hb
      have HE2 : Hid (F = true) := by show _ = _; rw [HE.out, hb]
      clear HE
      go_wp2
      go_ret
      exact ⟨ret_bool HE2.out.symm, HBa.out⟩
  · have d0 : (o == 0) = false := by simpa using h0
    have HE : Hid (F = (K && V)) := by show _ = _; rw [HF.out, if_neg h0]; rfl
    clear HF h0
    go_upto_region 5 with fail
    go_wp2_with fail
    refine HO'.out.mono ?_
    rintro e w2 ⟨l, m, rfl, b2⟩
    have HQ2 : Hid (Rq (w2.alloc (.cells #[.int .i64 O2, .string S2, .int .i64 l, .int .i64 m] 76)) w.heap.size n o v) := HQ.out.below (Below.alloc b2 b2.size _) hD
    have HB2 : Hid (Below w.heap.size w (w2.alloc (.cells #[.int .i64 O2, .string S2, .int .i64 l, .int .i64 m] 76))) := HBa.out.trans ((Below.alloc b2 b2.size _).mono HBa.out.size)
    clear b2 c1 c2 HQ HBa HO'
    cases K
    · have HE2 : Hid (F = false) := HE.out
      go_wp2
      go_ret
      exact ⟨ret_bool HE2.out.symm, HB2.out⟩
    · have HE2 : Hid (F = V) := HE.out
      clear HE
      have q2 := HQ2.out.c2
      go_wp2_with (go_at_call 38; refine (HL.out _).mono ?_; rintro e w3 ⟨rfl, b3⟩; have HB3 : Hid (Below w.heap.size w w3) := HB2.out.trans (b3.mono HB2.out.size); clear b3)
      go_ret
      exact ⟨ret_bool HE2.out.symm, HB3.out⟩

end Go.Proofs.YtmfcaoacklbkoaaDoor
