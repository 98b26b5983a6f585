/-
  joined: RdV DmP DmQ AnP RdX PaP DmV
-/
import Derived.Test.YtlkbbbbclmffjaaGreatDoorKRdU
import Derived.Test.YtlkbbbbclmffjaaGreatDoorKDrN
import Derived.Test.YtlkbbbbclmffjaaGreatDoorJText
set_option linter.unusedSimpArgs false
set_option linter.unusedVariables false
namespace Go.Proofs.YtlkbbbbclmffjaaGreatDoor
open Go Go.RowKit

/-- the digits of a word -/
def digD (w : List UInt8) : List UInt8 := if w.head? = some 45 then w.tail else w
def tensB (w : List UInt8) : Bool := !(w.head? == some 45 && w.tail == [48]) && (!(digD w).isEmpty && !(decide (1 < (digD w).length) && (digD w).head? == some 48)) && (digD w).all isDg
theorem dec_not0 {n : Nat} (h : 0 < n) : Lib.decDigits n ≠ [48] := fun e => dec_head n h (by rw [e]; rfl)
theorem dec_zero : Lib.decDigits 0 = [48] := by rw [Lib.decDigits]; rfl
theorem uniq_of {d : List UInt8} (h0 : d ≠ []) (h1 : ¬ (1 < d.length ∧ d.head? = some 48)) (h2 : d.all isDg = true) : d = Lib.decDigits (decV d) ∧ (d ≠ [48] → 0 < decV d) := by
  by_cases hz : d.head? = some 48
  · have hl : d.length = 1 := by
      have : 0 < d.length := List.length_pos_iff.2 h0
      rcases Nat.lt_or_ge 1 d.length with h | h
      · exact absurd ⟨h, hz⟩ h1
      · omega
    have : d = [48] := by
      cases d with
      | nil => exact absurd rfl h0
      | cons b r =>
        have hr : r = [] := List.length_eq_zero_iff.1 (by simpa using hl)
        subst hr
        simpa using hz
    subst this
    exact ⟨by have : decV [48] = 0 := rfl
              rw [this, dec_zero], fun h => absurd rfl h⟩
  · obtain ⟨e1, e2⟩ := dec_uniq d.length d rfl h0 hz h2
    exact ⟨e1.symm, fun _ => e2⟩
/-- a word in tens is a number's -/
theorem tens_itoa {w : List UInt8} (h : tensB w = true) : ∃ z : Int, w = Lib.itoa z := by
  simp only [tensB, Bool.and_eq_true, Bool.not_eq_true', Bool.and_eq_false_iff, decide_eq_false_iff_not, beq_eq_false_iff_ne] at h
  obtain ⟨⟨h1, h2, h3⟩, h4⟩ := h
  have h2' : digD w ≠ [] := by simpa using h2
  have h3' : ¬ (1 < (digD w).length ∧ (digD w).head? = some 48) := fun ⟨a, b⟩ => by
    rcases h3 with h | h
    · exact h a
    · exact h b
  obtain ⟨e1, e2⟩ := uniq_of h2' h3' h4
  by_cases hm : w.head? = some 45
  · have hd : digD w = w.tail := by unfold digD; rw [if_pos hm]
    rw [hd] at e1 e2
    have hne : w.tail ≠ [48] := by
      rcases h1 with h | h
      · exact absurd hm h
      · exact h
    have hpos := e2 hne
    refine ⟨-(decV w.tail : Int), ?_⟩
    have hw : w = 45 :: w.tail := by
      cases w with
      | nil => simp at hm
      | cons b r => simp at hm; rw [hm]; rfl
    unfold Lib.itoa
    rw [if_pos (by omega)]
    conv => lhs; rw [hw, e1]
    congr 2; omega
  · have hd : digD w = w := by unfold digD; rw [if_neg hm]
    rw [hd] at e1
    refine ⟨(decV w : Int), ?_⟩
    unfold Lib.itoa
    rw [if_neg (by omega)]
    conv => lhs; rw [e1]
    congr 1
theorem itoa_tens (z : Int) : tensB (Lib.itoa z) = true := by
  have key : ∀ n : Nat, (Lib.decDigits n).all isDg = true ∧ Lib.decDigits n ≠ [] ∧ (0 < n → (Lib.decDigits n).head? ≠ some 48) := fun n => ⟨dec_all n, dec_ne n, fun h => dec_head n h⟩
  by_cases hn : z < 0
  · have e : Lib.itoa z = 45 :: Lib.decDigits z.natAbs := by unfold Lib.itoa; rw [if_pos hn]
    obtain ⟨k1, k2, k3⟩ := key z.natAbs
    have hz := dec_not0 (n := z.natAbs) (by omega)
    have hd : digD (45 :: Lib.decDigits z.natAbs) = Lib.decDigits z.natAbs := rfl
    rw [e]
    unfold tensB
    rw [hd, k1]
    have k4 := k3 (by omega)
    simp [hz, k2, k4]
  · have e : Lib.itoa z = Lib.decDigits z.toNat := by unfold Lib.itoa; rw [if_neg hn]
    obtain ⟨k1, k2, k3⟩ := key z.toNat
    have h45 := dec_head45 z.toNat
    have hd : digD (Lib.decDigits z.toNat) = Lib.decDigits z.toNat := by unfold digD; rw [if_neg h45]
    rw [e]
    unfold tensB
    rw [hd, k1]
    by_cases h0 : 0 < z.toNat
    · have k4 := k3 h0
      simp [k2, k4, h45]
    · have : z.toNat = 0 := by omega
      rw [this, dec_zero]; decide
theorem numD_of_itoa (z : Int) : numD (Lib.itoa z) = if okN z then some z else none := by
  cases h : okN z
  · cases hn : numD (Lib.itoa z) with
    | none => rfl
    | some y =>
      obtain ⟨e1, e2⟩ := numD_some hn
      have := itoa_inj e1
      subst this
      rw [h] at e2; cases e2
  · rw [numD_itoa h]; rfl
theorem dig_le : ∀ (k n : Nat), n < 10 ^ (k + 1) → (Lib.decDigits n).length ≤ k + 1
  | 0, n, h => by
    rw [Lib.decDigits]
    split
    · simp
    · omega
  | k + 1, n, h => by
    rw [Lib.decDigits]
    split
    · simp
    · have := dig_le k (n / 10) (by rw [Nat.pow_succ] at h; omega)
      simp; omega
theorem itoa_short {z : Int} (h : okN z = true) : (Lib.itoa z).length ≤ 8 := by
  have hr := okN_range h
  unfold Lib.itoa
  split
  · have := dig_le 6 z.natAbs (by omega)
    simp; omega
  · have := dig_le 6 z.toNat (by omega)
    omega
theorem dig_lt {n k : Nat} (h : (Lib.decDigits n).length ≤ k) : n < 10 ^ k := by
  rw [Lib.decDigits_length] at h
  exact Nat.lt_of_lt_of_le (Lib.lt_pow_nDigits n) (Nat.pow_le_pow_right (by omega) h)
theorem atoi_itoa10 {z : Int} (h1 : -10000000000 ≤ z) (h2 : z ≤ 10000000000) : Lib.atoiAll (Lib.itoa z) = .ok z := by
  have key : ∀ u : Nat, u ≤ 10000000000 → Lib.parseMag (Lib.decDigits u) = .ok u := fun u hu => by
    have h1 := par_dec (Lib.decDigits u) 0 (dec_all u) (by have := dec_val u; unfold decV at this; omega)
    have h2 : (Lib.decDigits u).foldl (fun a b => 10 * a + (b.toNat - 48)) 0 = u := dec_val u
    rw [h2] at h1
    unfold Lib.parseMag
    cases hd : Lib.decDigits u with
    | nil => exact absurd hd (dec_ne u)
    | cons b r => rw [hd] at h1; exact h1
  unfold Lib.itoa
  split
  · rename_i hn
    have hk := key z.natAbs (by omega)
    unfold Lib.atoiAll
    simp only [show (45 : UInt8).toNat = 45 from rfl, if_true, or_true]
    rw [hk]
    simp only [not_true_eq_false, false_and, if_false, true_and]
    rw [if_neg (by omega)]
    congr 1; omega
  · rename_i hn
    have hk := key z.toNat (by omega)
    cases hd : Lib.decDigits z.toNat with
    | nil => exact absurd hd (dec_ne _)
    | cons b r =>
      have hb := dec_bytes z.toNat b (by rw [hd]; simp)
      unfold Lib.atoiAll
      have e1 : ¬ (b.toNat = 43 ∨ b.toNat = 45) := by omega
      have e2 : ¬ b.toNat = 45 := by omega
      rw [hd] at hk
      simp only [e2, or_false]
      rw [if_neg (show ¬ b.toNat = 43 by omega), hk]
      simp only [not_false_eq_true, true_and, false_and, if_false]
      rw [if_neg (by omega)]
      congr 1; omega

theorem ba_take {s : ByteArray} {k : Nat} (h : k < s.size) : s.data.toList.take (k + 1) = s.data.toList.take k ++ [s[k]] := by
  have hl : k < s.data.toList.length := by rw [ba_len]; exact h
  rw [List.take_add_one, List.getElem?_eq_getElem hl]; rfl
theorem ba_mem {s : ByteArray} {k : Nat} (h : k < s.size) : s[k] ∈ s.data.toList := by
  have hl : k < s.data.toList.length := by rw [ba_len]; exact h
  exact List.getElem_mem hl
theorem ba_head {s : ByteArray} (h : 0 < s.size) : s.data.toList.head? = some s[0] := by
  have hl : 0 < s.data.toList.length := by rw [ba_len]; exact h
  rw [List.head?_eq_getElem?, List.getElem?_eq_getElem hl]; rfl
theorem ba_tail1 (s : ByteArray) : (s.extract 1 s.size).data.toList = s.data.toList.tail := by
  rw [ext_list, ← List.drop_one]
  rw [List.take_of_length_le (by rw [List.length_drop, ba_len]; exact Nat.le_refl _)]
theorem ba_eq0 {s : ByteArray} : (s.toList == [48]) = (s.data.toList == [48]) := by rw [ByteArray.toList_eq]

/-- the digits' part of Tens, of a text d in slot 3: from its test on -/
def tensD (d : List UInt8) : Bool := (!d.isEmpty && !(decide (1 < d.length) && d.head? == some 48)) && d.all isDg
theorem tens_plain {w : List UInt8} (h : w.head? ≠ some 45) : tensB w = tensD w := by
  have hd : digD w = w := by unfold digD; rw [if_neg h]
  have hh : (w.head? == some 45) = false := by simpa using h
  unfold tensB tensD; rw [hd, hh]; simp
theorem tens_minus {w : List UInt8} (h : w.head? = some 45) : tensB w = (!(w.tail == [48]) && tensD w.tail) := by
  have hd : digD w = w.tail := by unfold digD; rw [if_pos h]
  have hh : (w.head? == some 45) = true := by rw [h]; rfl
  unfold tensB tensD; rw [hd, hh]
  cases (w.tail == [48]) <;> simp [Bool.and_assoc]

set_option maxRecDepth 100000 in
set_option maxHeartbeats 3200000 in
theorem rTens_any (s : ByteArray) (w : World) (hs : s.size ≤ 1099511627776) :
    Calls Tryz.prog 46 #[.string s] w fun e w' => e = .returned (.bool (tensB s.data.toList)) ∧ w' = w := by
  obtain ⟨R, hR⟩ : ∃ R, R = tensB s.data.toList := ⟨_, rfl⟩
  rw [← hR]
  by_cases hm : s.data.toList.head? = some 45
  · rw [tens_minus hm] at hR
    have hsz : 0 < s.size := by
      rcases Nat.eq_zero_or_pos s.size with h | h
      · have : s.data.toList = [] := List.length_eq_zero_iff.1 (by rw [ba_len]; exact h)
        rw [this] at hm; cases hm
      · exact h
    have h45 : s[0] = 45 := by have := ba_head hsz; rw [hm] at this; simpa using this.symm
    have hq45 : ((s[0].toNat : Int) == 45) = true := by rw [h45]; rfl
    have hdt := ba_tail1 s
    have hdz : (s.extract 1 s.size).size = s.size - 1 := by rw [← ba_len, hdt, List.length_tail, ba_len]
    have hde := ba_eq0 (s := s.extract 1 s.size)
    rw [← hdt] at hR
    obtain ⟨d, hd⟩ : ∃ d, d = s.extract 1 s.size := ⟨_, rfl⟩
    rw [← hd] at hR hdz hde
    have HD : Hid (d = s.extract 1 s.size) := hd
    have hdb : d.size ≤ 1099511627776 := by omega
    clear hdz
    have hxd : s.extract 1 s.size = d := hd.symm
    clear hdt hd h45 hm
    cases h48 : (d.data.toList == [48])
    case true =>
      have HE : Hid (R = false) := by show _ = _; rw [hR, h48]; rfl
      rw [h48] at hde
      clear hR h48
      go_enter Tryz.func46, Tryz.ntmps46
      go_wp2
      go_ret
      exact ⟨ret_bool HE.out.symm, rfl⟩
    rw [h48] at hde hR
    have HR : Hid (R = tensD d.data.toList) := by show _ = _; rw [hR]; rfl
    clear hR h48
    by_cases h0 : 0 < d.size
    case neg =>
      have HE : Hid (R = false) := by
        show _ = _
        rw [HR.out]
        have : d.data.toList = [] := List.length_eq_zero_iff.1 (by rw [ba_len]; omega)
        rw [this]; rfl
      have hz : (((d.size : Nat) : Int) == 0) = true := by rw [beq_iff_eq]; omega
      go_enter Tryz.func46, Tryz.ntmps46
      go_wp2
      go_ret
      exact ⟨ret_bool HE.out.symm, rfl⟩
    have hnz : (((d.size : Nat) : Int) == 0) = false := by rw [beq_eq_false_iff_ne]; omega
    have HH : Hid (d.data.toList.head? = some d[0]) := ba_head h0
    have hyl : d[0].toNat < 256 := d[0].toNat_lt
    by_cases h1 : 1 < d.size ∧ d[0] = 48
    · have HE : Hid (R = false) := by
        show _ = _
        rw [HR.out]
        unfold tensD
        rw [HH.out, ba_len, decide_eq_true h1.1, h1.2]; simp
      obtain ⟨h1a, h1b⟩ := h1
      have hq : ((d[0].toNat : Int) == 48) = true := by rw [h1b]; rfl
      go_enter Tryz.func46, Tryz.ntmps46
      go_wp2
      go_ret
      exact ⟨ret_bool HE.out.symm, rfl⟩
    have HR2 : Hid (R = d.data.toList.all isDg) := by
      show _ = _
      rw [HR.out]
      unfold tensD
      have e1 : d.data.toList.isEmpty = false := by
        rw [List.isEmpty_eq_false_iff]; intro e
        have := ba_len d; rw [e] at this; simp at this; omega
      have e2 : (decide (1 < d.data.toList.length) && d.data.toList.head? == some 48) = false := by
        rw [HH.out, ba_len]
        by_cases hb : 1 < d.size
        · have : d[0] ≠ 48 := fun e => h1 ⟨hb, e⟩
          simp [this]
        · simp [hb]
      rw [e1, e2]; simp
    have hq : 1 < d.size → ((d[0].toNat : Int) == 48) = false := fun hb => by
      rw [beq_eq_false_iff_ne]; intro e
      exact h1 ⟨hb, UInt8.toNat_inj.1 ((by omega : d[0].toNat = 48).trans rfl)⟩
    have HQ : Hid (1 < d.size → ((d[0].toNat : Int) == 48) = false) := hq
    clear h1 hq HR
    have hgo : ∃ c : Bool, True := ⟨true, trivial⟩
    by_cases hb1 : 1 < d.size
    all_goals
      first | have hq1 := HQ.out hb1 | skip
      go_enter Tryz.func46, Tryz.ntmps46
      go_wp2
      go_loopg [4] d.size (fun g i wr => ∃ k : Nat, k + g = d.size ∧ i = .int .i64 k ∧ (d.data.toList.take k).all isDg = true ∧ wr = w)
      case atStart => exact ⟨0, by omega, rfl, by simp, rfl⟩
      case round =>
        obtain ⟨k, hk, rfl, hA, rfl⟩ := hrel
        have HK : Hid (k + gk = d.size) := hk
        have HA : Hid ((d.data.toList.take k).all isDg = true) := hA
        clear hA
        by_cases hlt : k < d.size
        · have HT : Hid (d.data.toList.take (k + 1) = d.data.toList.take k ++ [d[k]]) := ba_take hlt
          have HM : Hid (d[k] ∈ d.data.toList) := ba_mem hlt
          have hkl : d[k].toNat < 256 := d[k].toNat_lt
          have HP : Hid (isDg d[k] = (decide (48 ≤ d[k].toNat) && decide (d[k].toNat ≤ 57))) := rfl
          clear hk
          by_cases hp1 : 48 ≤ d[k].toNat
          · by_cases hp2 : d[k].toNat ≤ 57
            · have HE : Hid ((d.data.toList.take (k + 1)).all isDg = true) := by
                show _ = _
                rw [HT.out, List.all_append, HA.out]
                simp [HP.out, hp1, hp2]
              go_wp2
              go_roundg (gk - 1)
              case measure => have := HK.out; omega
              case rel => exact ⟨k + 1, by have := HK.out; omega, by go_num, HE.out, rfl⟩
            · have HE : Hid (R = false) := by
                show _ = _
                rw [HR2.out, List.all_eq_false]; exact ⟨_, HM.out, by rw [HP.out]; simp [hp2]⟩
              go_wp2
              go_ret
              exact ⟨ret_bool HE.out.symm, rfl⟩
          · have HE : Hid (R = false) := by
              show _ = _
              rw [HR2.out, List.all_eq_false]; exact ⟨_, HM.out, by rw [HP.out]; simp [hp1]⟩
            go_wp2
            go_ret
            exact ⟨ret_bool HE.out.symm, rfl⟩
        · have HE : Hid (R = true) := by
            show _ = _
            rw [HR2.out]
            have := HA.out
            rw [List.take_of_length_le (by rw [ba_len]; omega)] at this
            exact this
          clear hk
          go_wp2
          go_ret
          exact ⟨ret_bool HE.out.symm, rfl⟩
  · rw [tens_plain hm] at hR
    have HR : Hid (R = tensD s.data.toList) := hR
    have h45 : (h : 0 < s.size) → ((s[0].toNat : Int) == 45) = false := fun h => by
      rw [beq_eq_false_iff_ne]; intro e
      have hy : s[0].toNat < 256 := s[0].toNat_lt
      have h2 : s[0] = 45 := UInt8.toNat_inj.1 ((by omega : s[0].toNat = 45).trans rfl)
      exact hm (by rw [ba_head h, h2])
    clear hR hm
    by_cases h0 : 0 < s.size
    case neg =>
      clear h45
      have HE : Hid (R = false) := by
        show _ = _
        rw [HR.out]
        have : s.data.toList = [] := List.length_eq_zero_iff.1 (by rw [ba_len]; omega)
        rw [this]; rfl
      have hz : (((s.size : Nat) : Int) == 0) = true := by rw [beq_iff_eq]; omega
      go_enter Tryz.func46, Tryz.ntmps46
      go_wp2
      go_ret
      exact ⟨ret_bool HE.out.symm, rfl⟩
    have hq45 := h45 h0
    clear h45
    have hnz : (((s.size : Nat) : Int) == 0) = false := by rw [beq_eq_false_iff_ne]; omega
    have HH : Hid (s.data.toList.head? = some s[0]) := ba_head h0
    have hyl : s[0].toNat < 256 := s[0].toNat_lt
    by_cases h1 : 1 < s.size ∧ s[0] = 48
    · have HE : Hid (R = false) := by
        show _ = _
        rw [HR.out]
        unfold tensD
        rw [HH.out, ba_len, decide_eq_true h1.1, h1.2]; simp
      obtain ⟨h1a, h1b⟩ := h1
      have hq : ((s[0].toNat : Int) == 48) = true := by rw [h1b]; rfl
      go_enter Tryz.func46, Tryz.ntmps46
      go_wp2
      go_ret
      exact ⟨ret_bool HE.out.symm, rfl⟩
    have HR2 : Hid (R = s.data.toList.all isDg) := by
      show _ = _
      rw [HR.out]
      unfold tensD
      have e1 : s.data.toList.isEmpty = false := by
        rw [List.isEmpty_eq_false_iff]; intro e
        have := ba_len s; rw [e] at this; simp at this; omega
      have e2 : (decide (1 < s.data.toList.length) && s.data.toList.head? == some 48) = false := by
        rw [HH.out, ba_len]
        by_cases hb : 1 < s.size
        · have : s[0] ≠ 48 := fun e => h1 ⟨hb, e⟩
          simp [this]
        · simp [hb]
      rw [e1, e2]; simp
    have hq : 1 < s.size → ((s[0].toNat : Int) == 48) = false := fun hb => by
      rw [beq_eq_false_iff_ne]; intro e
      exact h1 ⟨hb, UInt8.toNat_inj.1 ((by omega : s[0].toNat = 48).trans rfl)⟩
    have HQ : Hid (1 < s.size → ((s[0].toNat : Int) == 48) = false) := hq
    clear h1 hq HR
    have hgo : ∃ c : Bool, True := ⟨true, trivial⟩
    by_cases hb1 : 1 < s.size
    all_goals
      first | have hq1 := HQ.out hb1 | skip
      go_enter Tryz.func46, Tryz.ntmps46
      go_wp2
      go_loopg [4] s.size (fun g i wr => ∃ k : Nat, k + g = s.size ∧ i = .int .i64 k ∧ (s.data.toList.take k).all isDg = true ∧ wr = w)
      case atStart => exact ⟨0, by omega, rfl, by simp, rfl⟩
      case round =>
        obtain ⟨k, hk, rfl, hA, rfl⟩ := hrel
        have HK : Hid (k + gk = s.size) := hk
        have HA : Hid ((s.data.toList.take k).all isDg = true) := hA
        clear hA
        by_cases hlt : k < s.size
        · have HT : Hid (s.data.toList.take (k + 1) = s.data.toList.take k ++ [s[k]]) := ba_take hlt
          have HM : Hid (s[k] ∈ s.data.toList) := ba_mem hlt
          have hkl : s[k].toNat < 256 := s[k].toNat_lt
          have HP : Hid (isDg s[k] = (decide (48 ≤ s[k].toNat) && decide (s[k].toNat ≤ 57))) := rfl
          clear hk
          by_cases hp1 : 48 ≤ s[k].toNat
          · by_cases hp2 : s[k].toNat ≤ 57
            · have HE : Hid ((s.data.toList.take (k + 1)).all isDg = true) := by
                show _ = _
                rw [HT.out, List.all_append, HA.out]
                simp [HP.out, hp1, hp2]
              go_wp2
              go_roundg (gk - 1)
              case measure => have := HK.out; omega
              case rel => exact ⟨k + 1, by have := HK.out; omega, by go_num, HE.out, rfl⟩
            · have HE : Hid (R = false) := by
                show _ = _
                rw [HR2.out, List.all_eq_false]; exact ⟨_, HM.out, by rw [HP.out]; simp [hp2]⟩
              go_wp2
              go_ret
              exact ⟨ret_bool HE.out.symm, rfl⟩
          · have HE : Hid (R = false) := by
              show _ = _
              rw [HR2.out, List.all_eq_false]; exact ⟨_, HM.out, by rw [HP.out]; simp [hp1]⟩
            go_wp2
            go_ret
            exact ⟨ret_bool HE.out.symm, rfl⟩
        · have HE : Hid (R = true) := by
            show _ = _
            rw [HR2.out]
            have := HA.out
            rw [List.take_of_length_le (by rw [ba_len]; omega)] at this
            exact this
          clear hk
          go_wp2
          go_ret
          exact ⟨ret_bool HE.out.symm, rfl⟩

end Go.Proofs.YtlkbbbbclmffjaaGreatDoor
set_option linter.unusedSimpArgs false
set_option linter.unusedVariables false
namespace Go.Proofs.YtlkbbbbclmffjaaGreatDoor
open Go.RowKit

theorem cut_noN : ∀ s : List UInt8, hasN s = false → (cutN s).2 = []
  | [], _ => rfl
  | b :: r, h => by
    simp only [hasN, Bool.or_eq_false_iff] at h
    rw [cutN, h.1]
    simpa using cut_noN r h.2
theorem lns_lines : ∀ (n : Nat) (s : List UInt8), s.length ≤ n → lnsF s [] = linesOf s
  | n, [], _ => by rw [linesOf_nil]; rfl
  | 0, b :: r, h => by simp at h
  | n + 1, b :: r, h => by
    have hlt := cutN_lt (s := b :: r) (by simp)
    rw [lnsF_cut _ _ (.inl (by simp)), linesOf_cons (by simp), List.nil_append]
    cases hN : hasN (b :: r)
    · rw [cut_noN _ hN, linesOf_nil]; rfl
    · rw [if_pos rfl, lns_lines n _ (by simp at h hlt ⊢; omega)]
theorem words_bl {b : UInt8} {r : List UInt8} (h : isBl b = true) : wordsOf (b :: r) = wordsOf r := by
  have e : (b :: r).dropWhile isBl = r.dropWhile isBl := List.dropWhile_cons_of_pos h
  by_cases hn : r.dropWhile isBl = []
  · rw [wordsOf_nil hn, wordsOf_nil (by rw [e]; exact hn)]
  · rw [wordsOf_cons hn, wordsOf_cons (by rw [e]; exact hn), e]
theorem wds_both : ∀ s : List UInt8, (∀ cur, cur ≠ [] → wdsF s cur = (cur ++ s.takeWhile notBl) :: wordsOf (s.dropWhile notBl)) ∧ wdsF s [] = wordsOf s
  | [] => ⟨fun cur h => by simp [wdsF, h, wordsOf_nil (l := []) rfl], by simp [wdsF, wordsOf_nil (l := []) rfl]⟩
  | b :: r => by
    obtain ⟨iA, iB⟩ := wds_both r
    cases hb : isBl b
    · have hn : notBl b = true := by simp [notBl, hb]
      refine ⟨fun cur h => ?_, ?_⟩
      · rw [wdsF, hb, if_neg (by simp), iA _ (by simp), List.takeWhile_cons_of_pos hn, List.dropWhile_cons_of_pos hn]; simp
      · rw [wdsF, hb, if_neg (by simp), iA _ (by simp), wordsOf_cons (l := b :: r) (by rw [List.dropWhile_cons_of_neg (by simp [hb])]; simp)]
        rw [List.dropWhile_cons_of_neg (by simp [hb]), List.takeWhile_cons_of_pos hn, List.dropWhile_cons_of_pos hn]; simp
    · have hn : notBl b = false := by simp [notBl, hb]
      refine ⟨fun cur h => ?_, ?_⟩
      · rw [wdsF, hb, if_pos rfl, if_neg h, iB, List.takeWhile_cons_of_neg (by simp [hn]), List.dropWhile_cons_of_neg (by simp [hn]), words_bl hb]; simp
      · rw [wdsF, hb, if_pos rfl, if_pos rfl, iB, words_bl hb]; rfl
theorem wds_words (s : List UInt8) : wdsF s [] = wordsOf s := (wds_both s).2
/-- the words of the lines that begin with no c, each with its line's number -/
def spk : Nat → List (List UInt8) → List (List UInt8 × Nat)
  | _, [] => []
  | k, l :: r => (if l.head? = some 99 then [] else (wdsF l []).map (fun w => (w, k))) ++ spk (k + 1) r
theorem spk_spoken : ∀ (ls : List (List UInt8)) (k : Nat), spk k ls = spoken k ls
  | [], k => rfl
  | l :: r, k => by
    rw [spk, spoken, spk_spoken r]
    congr 1
    by_cases h : l.head? = some 99
    · simp [h, idleL]
    · rw [if_neg h, wds_words]
      cases hi : idleL l
      · simp
      · have ha : l.all isBl = true := by
          unfold idleL at hi
          simpa [h] using hi
        have hw : wordsOf l = [] := wordsOf_nil (by
          have : ∀ m : List UInt8, m.all isBl = true → m.dropWhile isBl = [] := by
            intro m
            induction m with
            | nil => intro _; rfl
            | cons x y ih => intro h; simp only [List.all_cons, Bool.and_eq_true] at h; rw [List.dropWhile_cons_of_pos h.1]; exact ih h.2
          exact this l ha)
        simp [hw]
theorem spoken_ge : ∀ (ls : List (List UInt8)) (k : Nat), ∀ x ∈ spoken k ls, k ≤ x.2
  | [], k, x, h => by cases h
  | l :: r, k, x, h => by
    rw [spoken] at h
    rcases List.mem_append.1 h with h | h
    · split at h
      · cases h
      · obtain ⟨w, _, rfl⟩ := List.mem_map.1 h
        exact Nat.le_refl _
    · have := spoken_ge r (k + 1) x h; omega

/-! numbers -/
/-- a number that is cut at a bound -/
def clN (B z : Int) : Int := if B < z then B else if z < -B then -B else z
theorem decV_itoa_pos {n : Nat} : decV (Lib.decDigits n) = n := dec_val n
theorem numW_it (z : Int) : numW (Lib.itoa z) = some (clN 2147483648 z) := by
  unfold Lib.itoa
  split
  · rename_i h
    unfold numW
    rw [if_pos (by simp), List.tail_cons, digs_val (dec_ne _) (dec_head _ (by omega)) (dec_all _), dec_val]
    simp only [Option.map_some, Option.some.injEq]
    unfold clN
    split
    · omega
    · split <;> omega
  · rename_i h
    unfold numW
    rw [if_neg (by simpa using dec_head45 _)]
    by_cases hz : z = 0
    · subst hz
      rw [if_pos (by rw [show (0 : Int).toNat = 0 from rfl, Lib.decDigits]; rfl)]
      rfl
    · rw [if_neg]
      · rw [digs_val (dec_ne _) (dec_head _ (by omega)) (dec_all _), dec_val]
        simp only [Option.some.injEq]
        unfold clN
        split
        · omega
        · split <;> omega
      · intro e
        have e2 := congrArg decV (by simpa using e : Lib.decDigits z.toNat = [48])
        rw [dec_val] at e2
        simp [decV] at e2; omega
theorem digs_isSome (l : List UInt8) : (digs l).isSome = ((!l.isEmpty && l.head? != some 48) && l.all isDg) := by
  unfold digs
  split
  · rename_i h; rw [h]; rfl
  · rename_i h; rw [Bool.not_eq_true] at h; rw [h]; rfl
theorem tens_num {w : List UInt8} (h : tensB w = false) : numW w = none := by
  have hk : ∀ l : List UInt8, (l == [48]) = false → (!l.isEmpty && !(decide (1 < l.length) && l.head? == some 48)) = (!l.isEmpty && l.head? != some 48) := by
    intro l h
    cases l with
    | nil => rfl
    | cons a r =>
      cases r with
      | nil =>
        have : a ≠ 48 := by simpa using h
        simp [this]
      | cons b r => simp [bne]
  have hd : ∀ l : List UInt8, ((!l.isEmpty && l.head? != some 48) && l.all isDg) = false → digs l = none := by
    intro l h
    have := digs_isSome l
    rw [h] at this
    cases hx : digs l with
    | none => rfl
    | some y => rw [hx] at this; cases this
  unfold tensB at h
  unfold numW
  by_cases hm : w.head? = some 45
  · have hdg : digD w = w.tail := by unfold digD; rw [if_pos hm]
    rw [hdg, hm] at h
    rw [if_pos (by rw [hm]; rfl)]
    cases h48 : (w.tail == [48])
    · rw [h48, hk _ h48] at h
      rw [hd _ (by simpa using h)]; rfl
    · have : w.tail = [48] := by simpa using h48
      rw [this]; rfl
  · have hdg : digD w = w := by unfold digD; rw [if_neg hm]
    have hm2 : (w.head? == some 45) = false := by simpa using hm
    rw [hdg, hm2] at h
    rw [if_neg (by rw [hm2]; simp)]
    cases h48 : (w == [48])
    · rw [hk _ h48] at h
      rw [if_neg (by simp)]
      exact hd _ (by simpa using h)
    · have : w = [48] := by simpa using h48
      subst this
      exact absurd h (by decide)
/-- the number that the document reads -/
def valT (w : List UInt8) : Int := match numW w with
  | some z => z
  | none => 0

end Go.Proofs.YtlkbbbbclmffjaaGreatDoor
set_option linter.unusedSimpArgs false
set_option linter.unusedVariables false
namespace Go.Proofs.YtlkbbbbclmffjaaGreatDoor
open Go.RowKit

theorem hdg_len : ∀ (ws : List (List UInt8)) {k : Nat} {tail : List (List UInt8 × Nat)}, (∀ x ∈ tail, x.2 ≠ k) → ((ws.map (fun w => (w, k)) ++ tail).takeWhile (fun x => x.2 == k)).length = ws.length
  | [], k, tail, h => by
    cases tail with
    | nil => rfl
    | cons x r =>
      have : (x.2 == k) = false := by simpa using h x (by simp)
      simp [this]
  | w :: r, k, tail, h => by
    have := hdg_len r (k := k) (tail := tail) h
    simp only [List.map_cons, List.cons_append, List.takeWhile_cons, beq_self_eq_true, if_true, List.length_cons]
    omega
theorem tw_len {α : Type} (p : α → Bool) (d : α) : ∀ (l : List α) (k : Nat), k ≤ l.length → (l.take k).all p = true → (k < l.length → p (l.getD k d) = false) → (l.takeWhile p).length = k
  | [], k, hk, _, _ => by simp at hk; simp [hk]
  | x :: r, 0, _, _, h => by
    have := h (by simp)
    simp at this
    simp [this]
  | x :: r, k + 1, hk, ha, h => by
    simp only [List.take_succ_cons, List.all_cons, Bool.and_eq_true] at ha
    have := tw_len p d r k (by simpa using hk) ha.2 (fun h' => by have := h (by simpa using h'); simpa using this)
    simp [ha.1, this]
/-- a number within a small bound is the same, cut wherever -/
theorem clN_small {B z m : Int} (h0 : 0 ≤ m) (hm : m < B) : (decide (0 ≤ clN B z) && decide (clN B z ≤ m)) = (decide (0 ≤ z) && decide (z ≤ m)) := by
  unfold clN
  split
  · rw [decide_eq_false (show ¬ B ≤ m by omega), decide_eq_false (show ¬ z ≤ m by omega)]; simp
  · split
    · rw [decide_eq_false (show ¬ 0 ≤ -B by omega), decide_eq_false (show ¬ 0 ≤ z by omega)]; simp
    · rfl
theorem clN_id {B z : Int} (h1 : -B ≤ z) (h2 : z ≤ B) : clN B z = z := by
  unfold clN; rw [if_neg (by omega), if_neg (by omega)]
/-- what a head says, told by its words -/
theorem headW_n4 {ws : List (List UInt8)} (h : ws.length ≠ 4) : headW ws = none := by
  unfold headW
  split
  · simp at h
  · rfl
theorem headW_4 (p c : List UInt8) (z1 z2 : Int) : headW [p, c, Lib.itoa z1, Lib.itoa z2] = if p == [112] && c == [99, 110, 102] then (if decide (0 ≤ z1) && decide (z1 ≤ 1048576) && (decide (0 ≤ z2) && decide (z2 ≤ 2147483647)) then some (z1, z2) else none) else none := by
  simp only [headW, numW_it, clN_small (z := z1) (B := 2147483648) (m := 1048576) (by omega) (by omega), clN_small (z := z2) (B := 2147483648) (m := 2147483647) (by omega) (by omega)]
  split
  · split
    · rename_i h
      simp only [Bool.and_eq_true, decide_eq_true_eq] at h
      rw [clN_id (by omega) (by omega), clN_id (by omega) (by omega)]
    · rfl
  · rfl
theorem headW_bad {p c a b : List UInt8} (h : tensB a = false ∨ tensB b = false) : headW [p, c, a, b] = none := by
  simp only [headW]
  split
  · rcases h with h | h
    · rw [tens_num h]
    · rw [tens_num h]
      cases numW a <;> rfl
  · rfl
theorem headW_some {ws : List (List UInt8)} {v c : Int} (h : headW ws = some (v, c)) : ∃ p q, ws = [p, q, Lib.itoa v, Lib.itoa c] ∧ 0 ≤ v ∧ v ≤ 1048576 ∧ 0 ≤ c ∧ c ≤ 2147483647 := by
  by_cases h4 : ws.length = 4
  · match ws, h4 with
    | [p, q, a, b], _ =>
      cases ha : tensB a
      · rw [headW_bad (.inl ha)] at h; cases h
      · cases hb : tensB b
        · rw [headW_bad (.inr hb)] at h; cases h
        · obtain ⟨z1, rfl⟩ := tens_itoa ha
          obtain ⟨z2, rfl⟩ := tens_itoa hb
          rw [headW_4] at h
          split at h
          · split at h
            · rename_i hr
              simp only [Bool.and_eq_true, decide_eq_true_eq] at hr
              cases h
              exact ⟨p, q, rfl, hr.1.1, hr.1.2, hr.2.1, hr.2.2⟩
            · cases h
          · cases h
  · rw [headW_n4 h4] at h; cases h
/-- a literal's place among the variables, by the document and by the program -/
theorem lit_bad {v z : Int} (hv0 : 0 ≤ v) (hv : v ≤ 1048576) (hz : clN 2147483648 z ≠ 0) : (!fmd (clN 2147483648 z) || decide (v < varOf (clN 2147483648 z))) = (decide (v < clN 10000000000 z) || decide (clN 10000000000 z < -v)) := by
  have hz0 : z ≠ 0 := fun e => hz (by rw [e]; rfl)
  rw [Bool.eq_iff_iff]
  simp only [Bool.or_eq_true, Bool.not_eq_true', decide_eq_true_eq]
  by_cases hr : -1048576 ≤ z ∧ z ≤ 1048576
  · rw [clN_id (by omega) (by omega), clN_id (by omega) (by omega)]
    have hf : fmd z = true := by unfold fmd; exact decide_eq_true ⟨hz0, hr.1, hr.2⟩
    rw [hf]
    unfold varOf
    rw [if_pos hf]
    split
    · simp; omega
    · simp; omega
  · have hf : fmd (clN 2147483648 z) = false := by
      unfold fmd; refine decide_eq_false fun h => ?_
      unfold clN at h
      split at h
      · omega
      · split at h <;> omega
    rw [hf]
    refine ⟨fun _ => ?_, fun _ => .inl rfl⟩
    unfold clN
    split
    · omega
    · split <;> omega

end Go.Proofs.YtlkbbbbclmffjaaGreatDoor
set_option linter.unusedSimpArgs false
set_option linter.unusedVariables false
namespace Go.Proofs.YtlkbbbbclmffjaaGreatDoor
open Go.RowKit

/-- the literal that is due, by the document and by the program -/
theorem var_due {z : Int} {k : Nat} (hz : z ≠ 0) : (varOf (clN 2147483648 z) = (k : Int) + 1) ↔ ((k : Int) + 1 ≤ 1048576 ∧ (clN 10000000000 z = (k : Int) + 1 ∨ clN 10000000000 z = -((k : Int) + 1))) := by
  by_cases hr : -1048576 ≤ z ∧ z ≤ 1048576
  · rw [clN_id (by omega) (by omega), clN_id (by omega) (by omega)]
    have hf : fmd z = true := by unfold fmd; exact decide_eq_true ⟨hz, hr.1, hr.2⟩
    unfold varOf
    rw [if_pos hf]
    split <;> omega
  · have hf : fmd (clN 2147483648 z) = false := by
      unfold fmd; refine decide_eq_false fun h => ?_
      unfold clN at h
      split at h
      · omega
      · split at h <;> omega
    unfold varOf
    rw [hf]
    have hc : clN 10000000000 z < -1048576 ∨ 1048576 < clN 10000000000 z := by
      unfold clN
      split
      · omega
      · split <;> omega
    simp
    omega
theorem pos_due {z : Int} : (decide (0 < clN 2147483648 z)) = decide (0 < z) := by
  unfold clN
  split
  · rw [decide_eq_true (by omega), decide_eq_true (by omega)]
  · split
    · rw [decide_eq_false (by omega), decide_eq_false (by omega)]
    · rfl

end Go.Proofs.YtlkbbbbclmffjaaGreatDoor
set_option linter.unusedSimpArgs false
set_option linter.unusedVariables false
namespace Go.Proofs.YtlkbbbbclmffjaaGreatDoor
open Go Go.RowKit

theorem okN_fmd (z : Int) : okN z = (z == 0 || fmd z) := rfl
theorem fmd_okN {z : Int} (h : okN z = false) : fmd z = false := by
  rw [okN_fmd] at h
  cases hf : fmd z
  · rfl
  · rw [hf] at h; simp at h

set_option maxRecDepth 100000 in
set_option maxHeartbeats 3200000 in
theorem rValue_any (s : ByteArray) (z : Int) (w : World) (hz : s.data.toList = Lib.itoa z) (hs : s.size ≤ 1099511627776) :
    Calls Tryz.prog 45 #[.string s] w fun e w' => ∃ n : Int, e = .returned (.int .i64 n) ∧ fmd n = fmd z ∧ (okN z = true → n = z) ∧ Below w.heap.size w w' := by
  have hl : s.size = (Lib.itoa z).length := by rw [← hz, ba_len]
  have h0 : 0 < s.size := by rw [hl]; exact List.length_pos_iff.2 (itoa_ne z)
  have hh : s.data.toList.head? = some s[0] := ba_head h0
  have hy : s[0].toNat < 256 := s[0].toNat_lt
  have hneg : z < 0 → s[0] = 45 := fun hn => by
    rw [hz] at hh; unfold Lib.itoa at hh; rw [if_pos hn] at hh; simpa using hh.symm
  have hpos : ¬ z < 0 → s[0] ≠ 45 := fun hn e => by
    rw [hz, e] at hh; unfold Lib.itoa at hh; rw [if_neg hn] at hh
    exact dec_head45 _ hh
  have hbig : 8 < s.size → okN z = false := fun h => by
    cases ho : okN z
    · rfl
    · have := itoa_short ho; omega
  have hn0 : ¬ s.size = 0 := by omega
  by_cases h1 : 11 < s.size ∨ (10 < s.size ∧ ¬ z < 0)
  · have hno : okN z = false := hbig (by omega)
    have HF : Hid (fmd z = false) := fmd_okN hno
    have HN : Hid (okN z = true → False) := fun h => by rw [hno] at h; cases h
    by_cases hn : z < 0
    · have h45 : ((s[0].toNat : Int) == 45) = true := by rw [hneg hn]; rfl
      have h11 : 11 < s.size := by omega
      clear hz hl hh hneg hpos hbig h1 hno hn
      go_enter Tryz.func45, Tryz.ntmps45
      go_wp2
      go_ret
      exact ⟨_, rfl, by rw [HF.out]; decide, fun h => absurd h (fun h => HN.out h), Below.refl _ _⟩
    · have h45 : ((s[0].toNat : Int) == 45) = false := by
        rw [beq_eq_false_iff_ne]; intro e
        have h2 : s[0] = 45 := UInt8.toNat_inj.1 ((by omega : s[0].toNat = 45).trans rfl)
        exact hpos hn h2
      have hq45 : ((s[0].toNat : Int) != 45) = true := by rw [bne, h45]; rfl
      have h10 : 10 < s.size := by omega
      clear hz hl hh hneg hpos hbig h1 hno hn
      by_cases h11 : 11 < s.size
      all_goals
        go_enter Tryz.func45, Tryz.ntmps45
        go_wp2
        go_ret
        exact ⟨_, rfl, by rw [HF.out]; decide, fun h => absurd h (fun h => HN.out h), Below.refl _ _⟩
  · have hr : -10000000000 ≤ z ∧ z ≤ 10000000000 := by
      by_cases hn : z < 0
      · have e : Lib.itoa z = 45 :: Lib.decDigits z.natAbs := by unfold Lib.itoa; rw [if_pos hn]
        rw [e, List.length_cons] at hl
        have := dig_lt (n := z.natAbs) (k := 10) (by omega)
        omega
      · have e : Lib.itoa z = Lib.decDigits z.toNat := by unfold Lib.itoa; rw [if_neg hn]
        rw [e] at hl
        have := dig_lt (n := z.toNat) (k := 10) (by omega)
        omega
    have hc := Tryz.strconv_Atoi_ok s (by omega) z (by rw [hz]; exact atoi_itoa10 hr.1 hr.2) w
    have HC : Hid (Calls Tryz.prog 63 #[.string s] w fun e w' => e = .returned (.tuple #[.int .i64 z, .nilIface]) ∧ Below w.heap.size w w') := hc.mono fun e w' ⟨q1, hw⟩ => ⟨q1, by
      rcases hw with rfl | ⟨t, rfl⟩
      · exact Below.refl _ _
      · exact bytes_below _ _⟩
    have h11 : ¬ 11 < s.size := fun h => h1 (.inl h)
    by_cases hn : z < 0
    · have hq45 : ((s[0].toNat : Int) != 45) = false := by rw [hneg hn]; rfl
      clear hz hl hh hneg hpos hbig h1 hc
      by_cases h10 : 10 < s.size
      all_goals
        go_enter Tryz.func45, Tryz.ntmps45
        go_wp2_with (go_at_call 63; refine HC.out.mono ?_; rintro e w1 ⟨rfl, bel1⟩)
        go_ret
        exact ⟨z, rfl, rfl, fun _ => rfl, bel1⟩
    · have h10 : ¬ 10 < s.size := fun h => h1 (.inr ⟨h, hn⟩)
      clear hz hl hh hneg hpos hbig h1 hc hn
      go_enter Tryz.func45, Tryz.ntmps45
      go_wp2_with (go_at_call 63; refine HC.out.mono ?_; rintro e w1 ⟨rfl, bel1⟩)
      go_ret
      exact ⟨z, rfl, rfl, fun _ => rfl, bel1⟩

/-- is the word a literal -/
def litQ (L : List UInt8) : Bool := match numD L with
  | some z => z != 0
  | none => false
theorem litQ_itoa (z : Int) : litQ (Lib.itoa z) = fmd z := by
  unfold litQ
  rw [numD_of_itoa]
  cases h : okN z
  · rw [fmd_okN h]; rfl
  · rw [okN_fmd] at h
    by_cases hz : z = 0
    · subst hz; rfl
    · have hz2 : (z == 0) = false := by simpa using hz
      rw [hz2, Bool.false_or] at h
      rw [h]; simp [bne, hz2]
theorem litQ_none {L : List UInt8} (h : tensB L = false) : litQ L = false := by
  unfold litQ
  cases hn : numD L with
  | none => rfl
  | some z =>
    rw [(numD_some hn).1, itoa_tens] at h
    cases h
end Go.Proofs.YtlkbbbbclmffjaaGreatDoor
set_option linter.unusedSimpArgs false
set_option linter.unusedVariables false
namespace Go.Proofs.YtlkbbbbclmffjaaGreatDoor
open Go.RowKit

/-- what is answered: the steps so far, and what is told of the tokens left -/
def finP (n : Nat) (acc : List Stp) (r : List Stp × Option Nat × RSt) : List Stp × Nat :=
  (acc ++ r.1, match r.2.1 with | some k => k | none => if r.2.2.op then n + 1 else 0)
theorem par_finP (s : List UInt8) : finP (lnsF s []).length [] (eatD (toks 1 (lnsF s [])) st0) = parD s := by
  rw [par_lines]; rfl
/-- the tokens of the line's words from a place on, and of the lines behind it -/
def tokR (k : Nat) (ws : List (List UInt8)) (ls : List (List UInt8)) : List Tok := ws.map (fun w => (some w, k)) ++ toks (k + 1) ls
theorem getD_drop {α : Type} (L : List α) (d : α) {k : Nat} (h : k < L.length) : L.drop k = L.getD k d :: L.drop (k + 1) := by
  rw [List.drop_eq_getElem_cons h, List.getD_eq_getElem?_getD, List.getElem?_eq_getElem h]; rfl
theorem fin_rem {n k : Nat} {acc : List Stp} {st : RSt} {ls : List (List UInt8)} {ln : List UInt8} {r : List (List UInt8)} (hL : ls = ln :: r) (h : ln.head? = some 99) (hp : ln.all plB = true) : finP n acc (eatD (toks k ls) st) = finP n acc (eatD (toks (k + 1) r) st) := by
  subst hL; rw [toks, tokL, if_pos h, if_pos hp]; rfl
theorem fin_bad {n k : Nat} {acc : List Stp} {st : RSt} {ls : List (List UInt8)} {ln : List UInt8} {r : List (List UInt8)} (hL : ls = ln :: r) (h : ln.head? = some 99) (hp : ln.all plB = false) : finP n acc (eatD (toks k ls) st) = (acc, k) := by
  subst hL; rw [toks, tokL, if_pos h, if_neg (by simp [hp])]; simp [eatD, finP]
theorem fin_line {n k : Nat} {acc : List Stp} {st : RSt} {ls : List (List UInt8)} {ln : List UInt8} {r : List (List UInt8)} (hL : ls = ln :: r) (h : ln.head? ≠ some 99) : finP n acc (eatD (toks k ls) st) = finP n acc (eatD (tokR k (wdsF ln []) r) st) := by
  subst hL; rw [toks, tokL, if_neg h]; rfl
theorem fin_next {n k : Nat} {acc : List Stp} {st : RSt} {r : List (List UInt8)} : finP n acc (eatD (tokR k [] r) st) = finP n acc (eatD (toks (k + 1) r) st) := rfl
theorem fin_take {n k : Nat} {acc : List Stp} {st st' : RSt} {w : List UInt8} {ws r : List (List UInt8)} {g : List Stp} (h : takeW st w = some (st', g)) : finP n acc (eatD (tokR k (w :: ws) r) st) = finP n (acc ++ g) (eatD (tokR k ws r) st') := by
  unfold tokR
  rw [List.map_cons, List.cons_append, eatD, h]
  simp only [finP, List.append_assoc]
theorem fin_no {n k : Nat} {acc : List Stp} {st : RSt} {w : List UInt8} {ws r : List (List UInt8)} (h : takeW st w = none) : finP n acc (eatD (tokR k (w :: ws) r) st) = (acc, k) := by
  unfold tokR
  rw [List.map_cons, List.cons_append, eatD, h]
  simp [finP]
theorem fin_end {n k : Nat} {acc : List Stp} {st : RSt} : finP n acc (eatD (toks k []) st) = (acc, if st.op then n + 1 else 0) := by simp [toks, eatD, finP]

/-- what becomes of a word -/
theorem takeP_d {dr : Bool} {cl : List Int} : takeW ⟨false, dr, cl⟩ [100] = some (⟨true, true, cl⟩, []) := rfl
theorem numD_48 : numD [48] = some 0 := rfl
theorem takeP_0 (st : RSt) : takeW st [48] = some (⟨false, false, []⟩, [(st.dr, st.cl)]) := by
  unfold takeW
  rw [numD_48]
  simp
theorem takeP_l {st : RSt} {w : List UInt8} (h : (w == [100] && !st.op) = false) (h0 : w ≠ [48]) (hq : litQ w = true) : ∃ z : Int, w = Lib.itoa z ∧ okN z = true ∧ takeW st w = some (⟨true, st.dr, st.cl ++ [z]⟩, []) := by
  unfold litQ at hq
  cases hn : numD w with
  | none => rw [hn] at hq; cases hq
  | some z =>
    rw [hn] at hq
    have hz : z ≠ 0 := by simpa using hq
    obtain ⟨e1, e2⟩ := numD_some hn
    refine ⟨z, e1, e2, ?_⟩
    unfold takeW
    rw [h, hn]
    simp [hz]
theorem takeP_n {st : RSt} {w : List UInt8} (h : (w == [100] && !st.op) = false) (h0 : w ≠ [48]) (hq : litQ w = false) : takeW st w = none := by
  unfold takeW
  rw [h]
  unfold litQ at hq
  cases hn : numD w with
  | none => simp
  | some z =>
    rw [hn] at hq
    have hz : z = 0 := by simpa using hq
    obtain ⟨e1, e2⟩ := numD_some hn
    subst hz
    exfalso; apply h0; rw [e1]
    unfold Lib.itoa
    rw [if_neg (by omega), show (0 : Int).toNat = 0 from rfl, Lib.decDigits]; rfl

/-! sizes -/
theorem wds_len : ∀ (s cur : List UInt8), (wdsF s cur).length ≤ s.length + cur.length
  | [], cur => by cases cur <;> simp [wdsF]
  | b :: r, cur => by
    rw [wdsF]
    split
    · have := wds_len r []
      cases cur <;> simp at this ⊢ <;> omega
    · have := wds_len r (cur ++ [b])
      simp at this ⊢; omega
theorem wds_each : ∀ (s cur : List UInt8), ∀ x ∈ wdsF s cur, x.length ≤ s.length + cur.length
  | [], cur => by
    intro x hx
    cases cur with
    | nil => simp [wdsF] at hx
    | cons c r => simp [wdsF] at hx; subst hx; simp
  | b :: r, cur => by
    intro x hx
    rw [wdsF] at hx
    split at hx
    · rcases List.mem_append.1 hx with hx | hx
      · split at hx
        · cases hx
        · obtain rfl : x = cur := by simpa using hx
          simp
      · have := wds_each r [] x hx
        simp at this ⊢; omega
    · have := wds_each r (cur ++ [b]) x hx
      simp at this ⊢; omega
def lenS (ls : List (List UInt8)) : Nat := (ls.map List.length).sum
theorem lns_len : ∀ (s cur : List UInt8), (lnsF s cur).length ≤ s.length + cur.length
  | [], cur => by cases cur <;> simp [lnsF]
  | b :: r, cur => by
    rw [lnsF]
    split
    · have := lns_len r []
      simp at this ⊢; omega
    · have := lns_len r (cur ++ [b])
      simp at this ⊢; omega
theorem lns_sum : ∀ (s cur : List UInt8), lenS (lnsF s cur) ≤ s.length + cur.length
  | [], cur => by cases cur <;> simp [lnsF, lenS]
  | b :: r, cur => by
    rw [lnsF]
    split
    · have := lns_sum r []
      simp [lenS] at this ⊢; omega
    · have := lns_sum r (cur ++ [b])
      simp [lenS] at this ⊢; omega
theorem lenS_cons (ln : List UInt8) (r : List (List UInt8)) : lenS (ln :: r) = ln.length + lenS r := by simp [lenS]
theorem lenS_each : ∀ (ls : List (List UInt8)), ∀ x ∈ ls, x.length ≤ lenS ls
  | [], x, h => by cases h
  | y :: r, x, h => by
    rw [lenS_cons]
    rcases List.mem_cons.1 h with rfl | h
    · omega
    · have := lenS_each r x h; omega

end Go.Proofs.YtlkbbbbclmffjaaGreatDoor
set_option linter.unusedSimpArgs false
set_option linter.unusedVariables false
namespace Go.Proofs.YtlkbbbbclmffjaaGreatDoor
open Go Go.RowKit

theorem dig_ge {n k : Nat} (hk : 0 < k) (h : k < (Lib.decDigits n).length) : 10 ^ k ≤ n := by
  rcases Nat.lt_or_ge n (10 ^ k) with h1 | h1
  · exfalso
    cases k with
    | zero => omega
    | succ k =>
      have := dig_le k n h1
      omega
  · exact h1
  
set_option maxRecDepth 100000 in
set_option maxHeartbeats 3200000 in
theorem rVal_any (s : ByteArray) (z : Int) (w : World) (hz : s.data.toList = Lib.itoa z) (hs : s.size ≤ 1099511627776) :
    Calls Tryz.prog 45 #[.string s] w fun e w' => e = .returned (.int .i64 (clN 10000000000 z)) ∧ Below w.heap.size w w' := by
  have hl : s.size = (Lib.itoa z).length := by rw [← hz, ba_len]
  have h0 : 0 < s.size := by rw [hl]; exact List.length_pos_iff.2 (itoa_ne z)
  have hh : s.data.toList.head? = some s[0] := ba_head h0
  have hy : s[0].toNat < 256 := s[0].toNat_lt
  have hneg : z < 0 → s[0] = 45 := fun hn => by
    rw [hz] at hh; unfold Lib.itoa at hh; rw [if_pos hn] at hh; simpa using hh.symm
  have hpos : ¬ z < 0 → s[0] ≠ 45 := fun hn e => by
    rw [hz, e] at hh; unfold Lib.itoa at hh; rw [if_neg hn] at hh
    exact dec_head45 _ hh
  have hn0 : ¬ s.size = 0 := by omega
  by_cases hn : z < 0
  · have e : Lib.itoa z = 45 :: Lib.decDigits z.natAbs := by unfold Lib.itoa; rw [if_pos hn]
    rw [e, List.length_cons] at hl
    by_cases h11 : 11 < s.size
    · have hbig := dig_ge (n := z.natAbs) (k := 10) (by omega) (by omega)
      have HR : Hid (clN 10000000000 z = -10000000000) := by show _ = _; unfold clN; rw [if_neg (by omega)]; split <;> omega
      have h45 : ((s[0].toNat : Int) == 45) = true := by rw [hneg hn]; rfl
      clear hz hl hh hneg hpos hn e hbig
      go_enter Tryz.func45, Tryz.ntmps45
      go_wp2
      go_ret
      exact ⟨ret_int HR.out.symm, Below.refl _ _⟩
    · have hlt := dig_lt (n := z.natAbs) (k := 10) (by omega)
      have HR : Hid (clN 10000000000 z = z) := by show _ = _; unfold clN; rw [if_neg (by omega), if_neg (by omega)]
      have hc := Tryz.strconv_Atoi_ok s (by omega) z (by rw [hz]; exact atoi_itoa10 (by omega) (by omega)) w
      have HC : Hid (Calls Tryz.prog 63 #[.string s] w fun e w' => e = .returned (.tuple #[.int .i64 z, .nilIface]) ∧ Below w.heap.size w w') := hc.mono fun e w' ⟨q1, hw⟩ => ⟨q1, by
        rcases hw with rfl | ⟨t, rfl⟩
        · exact Below.refl _ _
        · exact bytes_below _ _⟩
      have hq45 : ((s[0].toNat : Int) != 45) = false := by rw [hneg hn]; rfl
      clear hz hl hh hneg hpos hc hn e hlt
      by_cases h10 : 10 < s.size
      all_goals
        go_enter Tryz.func45, Tryz.ntmps45
        go_wp2_with (go_at_call 63; refine HC.out.mono ?_; rintro e w1 ⟨rfl, bel1⟩)
        go_ret
        exact ⟨ret_int HR.out.symm, bel1⟩
  · have e : Lib.itoa z = Lib.decDigits z.toNat := by unfold Lib.itoa; rw [if_neg hn]
    rw [e] at hl
    have h45 : ((s[0].toNat : Int) == 45) = false := by
      rw [beq_eq_false_iff_ne]; intro e
      have h2 : s[0] = 45 := UInt8.toNat_inj.1 ((by omega : s[0].toNat = 45).trans rfl)
      exact hpos hn h2
    have hq45 : ((s[0].toNat : Int) != 45) = true := by rw [bne, h45]; rfl
    by_cases h10 : 10 < s.size
    · have hbig := dig_ge (n := z.toNat) (k := 10) (by omega) (by omega)
      have HR : Hid (clN 10000000000 z = 10000000000) := by show _ = _; unfold clN; split <;> omega
      clear hz hl hh hneg hpos hn e hbig
      by_cases h11 : 11 < s.size
      all_goals
        go_enter Tryz.func45, Tryz.ntmps45
        go_wp2
        go_ret
        exact ⟨ret_int HR.out.symm, Below.refl _ _⟩
    · have hlt := dig_lt (n := z.toNat) (k := 10) (by omega)
      have HR : Hid (clN 10000000000 z = z) := by show _ = _; unfold clN; rw [if_neg (by omega), if_neg (by omega)]
      have hc := Tryz.strconv_Atoi_ok s (by omega) z (by rw [hz]; exact atoi_itoa10 (by omega) (by omega)) w
      have HC : Hid (Calls Tryz.prog 63 #[.string s] w fun e w' => e = .returned (.tuple #[.int .i64 z, .nilIface]) ∧ Below w.heap.size w w') := hc.mono fun e w' ⟨q1, hw⟩ => ⟨q1, by
        rcases hw with rfl | ⟨t, rfl⟩
        · exact Below.refl _ _
        · exact bytes_below _ _⟩
      have h11 : ¬ 11 < s.size := by omega
      clear hz hl hh hneg hpos hc hn e hlt
      go_enter Tryz.func45, Tryz.ntmps45
      go_wp2_with (go_at_call 63; refine HC.out.mono ?_; rintro e w1 ⟨rfl, bel1⟩)
      go_ret
      exact ⟨ret_int HR.out.symm, bel1⟩

end Go.Proofs.YtlkbbbbclmffjaaGreatDoor
