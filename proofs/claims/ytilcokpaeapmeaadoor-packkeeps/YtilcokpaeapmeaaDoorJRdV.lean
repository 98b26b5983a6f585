/-
  joined: RdV RdX PaP
-/
import Derived.Test.YtilcokpaeapmeaaDoorKRdU
import Derived.Test.YtilcokpaeapmeaaDoorKDrN
set_option linter.unusedSimpArgs false
set_option linter.unusedVariables false
namespace Go.Proofs.YtilcokpaeapmeaaDoor
open Go Go.RowKit

/-- the digits of a word -/
def digD (w : List UInt8) : List UInt8 := if w.head? = some 45 then w.tail else w
def tensB (w : List UInt8) : Bool := !(w.head? == some 45 && w.tail == [48]) && (!(digD w).isEmpty && !(decide (1 < (digD w).length) && (digD w).head? == some 48)) && (digD w).all isDg
theorem dec_not0 {n : Nat} (h : 0 < n) : Lib.decDigits n ≠ [48] := fun e => dec_head n h (by rw [e]; rfl)
theorem dec_zero : Lib.decDigits 0 = [48] := by rw [Lib.decDigits]; rfl
theorem uniq_of {d : List UInt8} (h0 : d ≠ []) (h1 : ¬ (1 < d.length ∧ d.head? = some 48)) (h2 : d.all isDg = true) : d = Lib.decDigits (decV d) ∧ (d ≠ [48] → 0 < decV d) := by
  by_cases hz : d.head? = some 48
  · have hl : d.length = 1 := by
      have : 0 < d.length := List.length_pos_iff.2 h0
      rcases Nat.lt_or_ge 1 d.length with h | h
      · exact absurd ⟨h, hz⟩ h1
      · omega
    have : d = [48] := by
      cases d with
      | nil => exact absurd rfl h0
      | cons b r =>
        have hr : r = [] := List.length_eq_zero_iff.1 (by simpa using hl)
        subst hr
        simpa using hz
    subst this
    exact ⟨by have : decV [48] = 0 := rfl
              rw [this, dec_zero], fun h => absurd rfl h⟩
  · obtain ⟨e1, e2⟩ := dec_uniq d.length d rfl h0 hz h2
    exact ⟨e1.symm, fun _ => e2⟩
/-- a word in tens is a number's -/
theorem tens_itoa {w : List UInt8} (h : tensB w = true) : ∃ z : Int, w = Lib.itoa z := by
  simp only [tensB, Bool.and_eq_true, Bool.not_eq_true', Bool.and_eq_false_iff, decide_eq_false_iff_not, beq_eq_false_iff_ne] at h
  obtain ⟨⟨h1, h2, h3⟩, h4⟩ := h
  have h2' : digD w ≠ [] := by simpa using h2
  have h3' : ¬ (1 < (digD w).length ∧ (digD w).head? = some 48) := fun ⟨a, b⟩ => by
    rcases h3 with h | h
    · exact h a
    · exact h b
  obtain ⟨e1, e2⟩ := uniq_of h2' h3' h4
  by_cases hm : w.head? = some 45
  · have hd : digD w = w.tail := by unfold digD; rw [if_pos hm]
    rw [hd] at e1 e2
    have hne : w.tail ≠ [48] := by
      rcases h1 with h | h
      · exact absurd hm h
      · exact h
    have hpos := e2 hne
    refine ⟨-(decV w.tail : Int), ?_⟩
    have hw : w = 45 :: w.tail := by
      cases w with
      | nil => simp at hm
      | cons b r => simp at hm; rw [hm]; rfl
    unfold Lib.itoa
    rw [if_pos (by omega)]
    conv => lhs; rw [hw, e1]
    congr 2; omega
  · have hd : digD w = w := by unfold digD; rw [if_neg hm]
    rw [hd] at e1
    refine ⟨(decV w : Int), ?_⟩
    unfold Lib.itoa
    rw [if_neg (by omega)]
    conv => lhs; rw [e1]
    congr 1
theorem itoa_tens (z : Int) : tensB (Lib.itoa z) = true := by
  have key : ∀ n : Nat, (Lib.decDigits n).all isDg = true ∧ Lib.decDigits n ≠ [] ∧ (0 < n → (Lib.decDigits n).head? ≠ some 48) := fun n => ⟨dec_all n, dec_ne n, fun h => dec_head n h⟩
  by_cases hn : z < 0
  · have e : Lib.itoa z = 45 :: Lib.decDigits z.natAbs := by unfold Lib.itoa; rw [if_pos hn]
    obtain ⟨k1, k2, k3⟩ := key z.natAbs
    have hz := dec_not0 (n := z.natAbs) (by omega)
    have hd : digD (45 :: Lib.decDigits z.natAbs) = Lib.decDigits z.natAbs := rfl
    rw [e]
    unfold tensB
    rw [hd, k1]
    have k4 := k3 (by omega)
    simp [hz, k2, k4]
  · have e : Lib.itoa z = Lib.decDigits z.toNat := by unfold Lib.itoa; rw [if_neg hn]
    obtain ⟨k1, k2, k3⟩ := key z.toNat
    have h45 := dec_head45 z.toNat
    have hd : digD (Lib.decDigits z.toNat) = Lib.decDigits z.toNat := by unfold digD; rw [if_neg h45]
    rw [e]
    unfold tensB
    rw [hd, k1]
    by_cases h0 : 0 < z.toNat
    · have k4 := k3 h0
      simp [k2, k4, h45]
    · have : z.toNat = 0 := by omega
      rw [this, dec_zero]; decide
theorem numD_of_itoa (z : Int) : numD (Lib.itoa z) = if okN z then some z else none := by
  cases h : okN z
  · cases hn : numD (Lib.itoa z) with
    | none => rfl
    | some y =>
      obtain ⟨e1, e2⟩ := numD_some hn
      have := itoa_inj e1
      subst this
      rw [h] at e2; cases e2
  · rw [numD_itoa h]; rfl
theorem dig_le : ∀ (k n : Nat), n < 10 ^ (k + 1) → (Lib.decDigits n).length ≤ k + 1
  | 0, n, h => by
    rw [Lib.decDigits]
    split
    · simp
    · omega
  | k + 1, n, h => by
    rw [Lib.decDigits]
    split
    · simp
    · have := dig_le k (n / 10) (by rw [Nat.pow_succ] at h; omega)
      simp; omega
theorem itoa_short {z : Int} (h : okN z = true) : (Lib.itoa z).length ≤ 8 := by
  have hr := okN_range h
  unfold Lib.itoa
  split
  · have := dig_le 6 z.natAbs (by omega)
    simp; omega
  · have := dig_le 6 z.toNat (by omega)
    omega
theorem dig_lt {n k : Nat} (h : (Lib.decDigits n).length ≤ k) : n < 10 ^ k := by
  rw [Lib.decDigits_length] at h
  exact Nat.lt_of_lt_of_le (Lib.lt_pow_nDigits n) (Nat.pow_le_pow_right (by omega) h)
theorem atoi_itoa10 {z : Int} (h1 : -10000000000 ≤ z) (h2 : z ≤ 10000000000) : Lib.atoiAll (Lib.itoa z) = .ok z := by
  have key : ∀ u : Nat, u ≤ 10000000000 → Lib.parseMag (Lib.decDigits u) = .ok u := fun u hu => by
    have h1 := par_dec (Lib.decDigits u) 0 (dec_all u) (by have := dec_val u; unfold decV at this; omega)
    have h2 : (Lib.decDigits u).foldl (fun a b => 10 * a + (b.toNat - 48)) 0 = u := dec_val u
    rw [h2] at h1
    unfold Lib.parseMag
    cases hd : Lib.decDigits u with
    | nil => exact absurd hd (dec_ne u)
    | cons b r => rw [hd] at h1; exact h1
  unfold Lib.itoa
  split
  · rename_i hn
    have hk := key z.natAbs (by omega)
    unfold Lib.atoiAll
    simp only [show (45 : UInt8).toNat = 45 from rfl, if_true, or_true]
    rw [hk]
    simp only [not_true_eq_false, false_and, if_false, true_and]
    rw [if_neg (by omega)]
    congr 1; omega
  · rename_i hn
    have hk := key z.toNat (by omega)
    cases hd : Lib.decDigits z.toNat with
    | nil => exact absurd hd (dec_ne _)
    | cons b r =>
      have hb := dec_bytes z.toNat b (by rw [hd]; simp)
      unfold Lib.atoiAll
      have e1 : ¬ (b.toNat = 43 ∨ b.toNat = 45) := by omega
      have e2 : ¬ b.toNat = 45 := by omega
      rw [hd] at hk
      simp only [e2, or_false]
      rw [if_neg (show ¬ b.toNat = 43 by omega), hk]
      simp only [not_false_eq_true, true_and, false_and, if_false]
      rw [if_neg (by omega)]
      congr 1; omega

theorem ba_take {s : ByteArray} {k : Nat} (h : k < s.size) : s.data.toList.take (k + 1) = s.data.toList.take k ++ [s[k]] := by
  have hl : k < s.data.toList.length := by rw [ba_len]; exact h
  rw [List.take_add_one, List.getElem?_eq_getElem hl]; rfl
theorem ba_mem {s : ByteArray} {k : Nat} (h : k < s.size) : s[k] ∈ s.data.toList := by
  have hl : k < s.data.toList.length := by rw [ba_len]; exact h
  exact List.getElem_mem hl
theorem ba_head {s : ByteArray} (h : 0 < s.size) : s.data.toList.head? = some s[0] := by
  have hl : 0 < s.data.toList.length := by rw [ba_len]; exact h
  rw [List.head?_eq_getElem?, List.getElem?_eq_getElem hl]; rfl
theorem ba_tail1 (s : ByteArray) : (s.extract 1 s.size).data.toList = s.data.toList.tail := by
  rw [ext_list, ← List.drop_one]
  rw [List.take_of_length_le (by rw [List.length_drop, ba_len]; exact Nat.le_refl _)]
theorem ba_eq0 {s : ByteArray} : (s.toList == [48]) = (s.data.toList == [48]) := by rw [ByteArray.toList_eq]

set_option maxRecDepth 100000 in
set_option maxHeartbeats 3200000 in
theorem remark_any (s : ByteArray) (w : World) (hs : s.size ≤ 1099511627776) :
    Calls Tryd.prog 55 #[.string s] w fun e w' => e = .returned (.bool (s.data.toList.all plB)) ∧ w' = w := by
  obtain ⟨R, hR⟩ : ∃ R, R = s.data.toList.all plB := ⟨_, rfl⟩
  rw [← hR]
  have HR : Hid (R = s.data.toList.all plB) := hR
  clear hR
  go_enter Tryd.func55, Tryd.ntmps55
  go_wp2
  go_loopg [3] s.size (fun g i wr => ∃ k : Nat, k + g = s.size ∧ i = .int .i64 k ∧ (s.data.toList.take k).all plB = true ∧ wr = w)
  case atStart => exact ⟨0, by omega, rfl, by simp, rfl⟩
  case round =>
    obtain ⟨k, hk, rfl, hA, rfl⟩ := hrel
    have HK : Hid (k + gk = s.size) := hk
    have HA : Hid ((s.data.toList.take k).all plB = true) := hA
    clear hA
    by_cases hlt : k < s.size
    · have HT : Hid (s.data.toList.take (k + 1) = s.data.toList.take k ++ [s[k]]) := ba_take hlt
      have HM : Hid (s[k] ∈ s.data.toList) := ba_mem hlt
      clear hk
      have hyl : s[k].toNat < 256 := s[k].toNat_lt
      have HP : Hid (plB s[k] = (s[k] == 9 || (decide (32 ≤ s[k].toNat) && decide (s[k].toNat ≤ 126)))) := rfl
      cases hp : plB s[k]
      · have HE : Hid (R = false) := by
          show _ = _
          rw [HR.out, List.all_eq_false]; exact ⟨_, HM.out, by rw [hp]; simp⟩
        have h9 : ((s[k].toNat : Int) != 9) = true := by
          rw [bne_iff_ne]; intro e
          have : s[k] = 9 := UInt8.toNat_inj.1 ((by omega : s[k].toNat = 9).trans rfl)
          rw [this] at hp; revert hp; decide
        have n9 : ¬ (s[k].toNat : Int) = 9 := by simpa using h9
        have hr : s[k].toNat < 32 ∨ 126 < s[k].toNat := by
          rcases Nat.lt_or_ge s[k].toNat 32 with h | h
          · exact .inl h
          · right
            rcases Nat.lt_or_ge 126 s[k].toNat with h2 | h2
            · exact h2
            · have := HP.out
              rw [hp, decide_eq_true h, decide_eq_true h2] at this
              simp at this
        clear hp HP
        rcases hr with hr | hr
        all_goals
          go_wp2
          go_ret
          exact ⟨ret_bool HE.out.symm, rfl⟩
      · have HE : Hid ((s.data.toList.take (k + 1)).all plB = true) := by
          show _ = _
          rw [HT.out, List.all_append, HA.out]; simp [hp]
        by_cases e9 : s[k] = 9
        · have h9 : ((s[k].toNat : Int) != 9) = false := by rw [e9]; rfl
          clear hp HP
          go_wp2
          go_roundg (gk - 1)
          case measure => have := HK.out; omega
          case rel => exact ⟨k + 1, by have := HK.out; omega, by go_num, HE.out, rfl⟩
        · have b9 : (s[k] == 9) = false := by simpa using e9
          have h9 : ((s[k].toNat : Int) != 9) = true := by
            rw [bne_iff_ne]; intro e
            exact e9 (UInt8.toNat_inj.1 ((by omega : s[k].toNat = 9).trans rfl))
          have hr : 32 ≤ s[k].toNat ∧ s[k].toNat ≤ 126 := by
            have := HP.out
            rw [hp, b9] at this
            simpa using this.symm
          obtain ⟨hr1, hr2⟩ := hr
          have n9 : ¬ (s[k].toNat : Int) = 9 := by simpa using h9
          clear hp HP e9 b9
          go_wp2
          go_roundg (gk - 1)
          case measure => have := HK.out; omega
          case rel => exact ⟨k + 1, by have := HK.out; omega, by go_num, HE.out, rfl⟩
    · have HE : Hid (R = true) := by
        show _ = _
        rw [HR.out]
        have := HA.out
        rw [List.take_of_length_le (by rw [ba_len]; omega)] at this
        exact this
      clear hk
      go_wp2
      go_ret
      exact ⟨ret_bool HE.out.symm, rfl⟩

/-- the digits' part of Tens, of a text d in slot 3: from its test on -/
def tensD (d : List UInt8) : Bool := (!d.isEmpty && !(decide (1 < d.length) && d.head? == some 48)) && d.all isDg
theorem tens_plain {w : List UInt8} (h : w.head? ≠ some 45) : tensB w = tensD w := by
  have hd : digD w = w := by unfold digD; rw [if_neg h]
  have hh : (w.head? == some 45) = false := by simpa using h
  unfold tensB tensD; rw [hd, hh]; simp
theorem tens_minus {w : List UInt8} (h : w.head? = some 45) : tensB w = (!(w.tail == [48]) && tensD w.tail) := by
  have hd : digD w = w.tail := by unfold digD; rw [if_pos h]
  have hh : (w.head? == some 45) = true := by rw [h]; rfl
  unfold tensB tensD; rw [hd, hh]
  cases (w.tail == [48]) <;> simp [Bool.and_assoc]

set_option maxRecDepth 100000 in
set_option maxHeartbeats 3200000 in
theorem rTens_any (s : ByteArray) (w : World) (hs : s.size ≤ 1099511627776) :
    Calls Tryd.prog 66 #[.string s] w fun e w' => e = .returned (.bool (tensB s.data.toList)) ∧ w' = w := by
  obtain ⟨R, hR⟩ : ∃ R, R = tensB s.data.toList := ⟨_, rfl⟩
  rw [← hR]
  by_cases hm : s.data.toList.head? = some 45
  · rw [tens_minus hm] at hR
    have hsz : 0 < s.size := by
      rcases Nat.eq_zero_or_pos s.size with h | h
      · have : s.data.toList = [] := List.length_eq_zero_iff.1 (by rw [ba_len]; exact h)
        rw [this] at hm; cases hm
      · exact h
    have h45 : s[0] = 45 := by have := ba_head hsz; rw [hm] at this; simpa using this.symm
    have hq45 : ((s[0].toNat : Int) == 45) = true := by rw [h45]; rfl
    have hdt := ba_tail1 s
    have hdz : (s.extract 1 s.size).size = s.size - 1 := by rw [← ba_len, hdt, List.length_tail, ba_len]
    have hde := ba_eq0 (s := s.extract 1 s.size)
    rw [← hdt] at hR
    obtain ⟨d, hd⟩ : ∃ d, d = s.extract 1 s.size := ⟨_, rfl⟩
    rw [← hd] at hR hdz hde
    have HD : Hid (d = s.extract 1 s.size) := hd
    have hdb : d.size ≤ 1099511627776 := by omega
    clear hdz
    have hxd : s.extract 1 s.size = d := hd.symm
    clear hdt hd h45 hm
    cases h48 : (d.data.toList == [48])
    case true =>
      have HE : Hid (R = false) := by show _ = _; rw [hR, h48]; rfl
      rw [h48] at hde
      clear hR h48
      go_enter Tryd.func66, Tryd.ntmps66
      go_wp2
      go_ret
      exact ⟨ret_bool HE.out.symm, rfl⟩
    rw [h48] at hde hR
    have HR : Hid (R = tensD d.data.toList) := by show _ = _; rw [hR]; rfl
    clear hR h48
    by_cases h0 : 0 < d.size
    case neg =>
      have HE : Hid (R = false) := by
        show _ = _
        rw [HR.out]
        have : d.data.toList = [] := List.length_eq_zero_iff.1 (by rw [ba_len]; omega)
        rw [this]; rfl
      have hz : (((d.size : Nat) : Int) == 0) = true := by rw [beq_iff_eq]; omega
      go_enter Tryd.func66, Tryd.ntmps66
      go_wp2
      go_ret
      exact ⟨ret_bool HE.out.symm, rfl⟩
    have hnz : (((d.size : Nat) : Int) == 0) = false := by rw [beq_eq_false_iff_ne]; omega
    have HH : Hid (d.data.toList.head? = some d[0]) := ba_head h0
    have hyl : d[0].toNat < 256 := d[0].toNat_lt
    by_cases h1 : 1 < d.size ∧ d[0] = 48
    · have HE : Hid (R = false) := by
        show _ = _
        rw [HR.out]
        unfold tensD
        rw [HH.out, ba_len, decide_eq_true h1.1, h1.2]; simp
      obtain ⟨h1a, h1b⟩ := h1
      have hq : ((d[0].toNat : Int) == 48) = true := by rw [h1b]; rfl
      go_enter Tryd.func66, Tryd.ntmps66
      go_wp2
      go_ret
      exact ⟨ret_bool HE.out.symm, rfl⟩
    have HR2 : Hid (R = d.data.toList.all isDg) := by
      show _ = _
      rw [HR.out]
      unfold tensD
      have e1 : d.data.toList.isEmpty = false := by
        rw [List.isEmpty_eq_false_iff]; intro e
        have := ba_len d; rw [e] at this; simp at this; omega
      have e2 : (decide (1 < d.data.toList.length) && d.data.toList.head? == some 48) = false := by
        rw [HH.out, ba_len]
        by_cases hb : 1 < d.size
        · have : d[0] ≠ 48 := fun e => h1 ⟨hb, e⟩
          simp [this]
        · simp [hb]
      rw [e1, e2]; simp
    have hq : 1 < d.size → ((d[0].toNat : Int) == 48) = false := fun hb => by
      rw [beq_eq_false_iff_ne]; intro e
      exact h1 ⟨hb, UInt8.toNat_inj.1 ((by omega : d[0].toNat = 48).trans rfl)⟩
    have HQ : Hid (1 < d.size → ((d[0].toNat : Int) == 48) = false) := hq
    clear h1 hq HR
    have hgo : ∃ c : Bool, True := ⟨true, trivial⟩
    by_cases hb1 : 1 < d.size
    all_goals
      first | have hq1 := HQ.out hb1 | skip
      go_enter Tryd.func66, Tryd.ntmps66
      go_wp2
      go_loopg [4] d.size (fun g i wr => ∃ k : Nat, k + g = d.size ∧ i = .int .i64 k ∧ (d.data.toList.take k).all isDg = true ∧ wr = w)
      case atStart => exact ⟨0, by omega, rfl, by simp, rfl⟩
      case round =>
        obtain ⟨k, hk, rfl, hA, rfl⟩ := hrel
        have HK : Hid (k + gk = d.size) := hk
        have HA : Hid ((d.data.toList.take k).all isDg = true) := hA
        clear hA
        by_cases hlt : k < d.size
        · have HT : Hid (d.data.toList.take (k + 1) = d.data.toList.take k ++ [d[k]]) := ba_take hlt
          have HM : Hid (d[k] ∈ d.data.toList) := ba_mem hlt
          have hkl : d[k].toNat < 256 := d[k].toNat_lt
          have HP : Hid (isDg d[k] = (decide (48 ≤ d[k].toNat) && decide (d[k].toNat ≤ 57))) := rfl
          clear hk
          by_cases hp1 : 48 ≤ d[k].toNat
          · by_cases hp2 : d[k].toNat ≤ 57
            · have HE : Hid ((d.data.toList.take (k + 1)).all isDg = true) := by
                show _ = _
                rw [HT.out, List.all_append, HA.out]
                simp [HP.out, hp1, hp2]
              go_wp2
              go_roundg (gk - 1)
              case measure => have := HK.out; omega
              case rel => exact ⟨k + 1, by have := HK.out; omega, by go_num, HE.out, rfl⟩
            · have HE : Hid (R = false) := by
                show _ = _
                rw [HR2.out, List.all_eq_false]; exact ⟨_, HM.out, by rw [HP.out]; simp [hp2]⟩
              go_wp2
              go_ret
              exact ⟨ret_bool HE.out.symm, rfl⟩
          · have HE : Hid (R = false) := by
              show _ = _
              rw [HR2.out, List.all_eq_false]; exact ⟨_, HM.out, by rw [HP.out]; simp [hp1]⟩
            go_wp2
            go_ret
            exact ⟨ret_bool HE.out.symm, rfl⟩
        · have HE : Hid (R = true) := by
            show _ = _
            rw [HR2.out]
            have := HA.out
            rw [List.take_of_length_le (by rw [ba_len]; omega)] at this
            exact this
          clear hk
          go_wp2
          go_ret
          exact ⟨ret_bool HE.out.symm, rfl⟩
  · rw [tens_plain hm] at hR
    have HR : Hid (R = tensD s.data.toList) := hR
    have h45 : (h : 0 < s.size) → ((s[0].toNat : Int) == 45) = false := fun h => by
      rw [beq_eq_false_iff_ne]; intro e
      have hy : s[0].toNat < 256 := s[0].toNat_lt
      have h2 : s[0] = 45 := UInt8.toNat_inj.1 ((by omega : s[0].toNat = 45).trans rfl)
      exact hm (by rw [ba_head h, h2])
    clear hR hm
    by_cases h0 : 0 < s.size
    case neg =>
      clear h45
      have HE : Hid (R = false) := by
        show _ = _
        rw [HR.out]
        have : s.data.toList = [] := List.length_eq_zero_iff.1 (by rw [ba_len]; omega)
        rw [this]; rfl
      have hz : (((s.size : Nat) : Int) == 0) = true := by rw [beq_iff_eq]; omega
      go_enter Tryd.func66, Tryd.ntmps66
      go_wp2
      go_ret
      exact ⟨ret_bool HE.out.symm, rfl⟩
    have hq45 := h45 h0
    clear h45
    have hnz : (((s.size : Nat) : Int) == 0) = false := by rw [beq_eq_false_iff_ne]; omega
    have HH : Hid (s.data.toList.head? = some s[0]) := ba_head h0
    have hyl : s[0].toNat < 256 := s[0].toNat_lt
    by_cases h1 : 1 < s.size ∧ s[0] = 48
    · have HE : Hid (R = false) := by
        show _ = _
        rw [HR.out]
        unfold tensD
        rw [HH.out, ba_len, decide_eq_true h1.1, h1.2]; simp
      obtain ⟨h1a, h1b⟩ := h1
      have hq : ((s[0].toNat : Int) == 48) = true := by rw [h1b]; rfl
      go_enter Tryd.func66, Tryd.ntmps66
      go_wp2
      go_ret
      exact ⟨ret_bool HE.out.symm, rfl⟩
    have HR2 : Hid (R = s.data.toList.all isDg) := by
      show _ = _
      rw [HR.out]
      unfold tensD
      have e1 : s.data.toList.isEmpty = false := by
        rw [List.isEmpty_eq_false_iff]; intro e
        have := ba_len s; rw [e] at this; simp at this; omega
      have e2 : (decide (1 < s.data.toList.length) && s.data.toList.head? == some 48) = false := by
        rw [HH.out, ba_len]
        by_cases hb : 1 < s.size
        · have : s[0] ≠ 48 := fun e => h1 ⟨hb, e⟩
          simp [this]
        · simp [hb]
      rw [e1, e2]; simp
    have hq : 1 < s.size → ((s[0].toNat : Int) == 48) = false := fun hb => by
      rw [beq_eq_false_iff_ne]; intro e
      exact h1 ⟨hb, UInt8.toNat_inj.1 ((by omega : s[0].toNat = 48).trans rfl)⟩
    have HQ : Hid (1 < s.size → ((s[0].toNat : Int) == 48) = false) := hq
    clear h1 hq HR
    have hgo : ∃ c : Bool, True := ⟨true, trivial⟩
    by_cases hb1 : 1 < s.size
    all_goals
      first | have hq1 := HQ.out hb1 | skip
      go_enter Tryd.func66, Tryd.ntmps66
      go_wp2
      go_loopg [4] s.size (fun g i wr => ∃ k : Nat, k + g = s.size ∧ i = .int .i64 k ∧ (s.data.toList.take k).all isDg = true ∧ wr = w)
      case atStart => exact ⟨0, by omega, rfl, by simp, rfl⟩
      case round =>
        obtain ⟨k, hk, rfl, hA, rfl⟩ := hrel
        have HK : Hid (k + gk = s.size) := hk
        have HA : Hid ((s.data.toList.take k).all isDg = true) := hA
        clear hA
        by_cases hlt : k < s.size
        · have HT : Hid (s.data.toList.take (k + 1) = s.data.toList.take k ++ [s[k]]) := ba_take hlt
          have HM : Hid (s[k] ∈ s.data.toList) := ba_mem hlt
          have hkl : s[k].toNat < 256 := s[k].toNat_lt
          have HP : Hid (isDg s[k] = (decide (48 ≤ s[k].toNat) && decide (s[k].toNat ≤ 57))) := rfl
          clear hk
          by_cases hp1 : 48 ≤ s[k].toNat
          · by_cases hp2 : s[k].toNat ≤ 57
            · have HE : Hid ((s.data.toList.take (k + 1)).all isDg = true) := by
                show _ = _
                rw [HT.out, List.all_append, HA.out]
                simp [HP.out, hp1, hp2]
              go_wp2
              go_roundg (gk - 1)
              case measure => have := HK.out; omega
              case rel => exact ⟨k + 1, by have := HK.out; omega, by go_num, HE.out, rfl⟩
            · have HE : Hid (R = false) := by
                show _ = _
                rw [HR2.out, List.all_eq_false]; exact ⟨_, HM.out, by rw [HP.out]; simp [hp2]⟩
              go_wp2
              go_ret
              exact ⟨ret_bool HE.out.symm, rfl⟩
          · have HE : Hid (R = false) := by
              show _ = _
              rw [HR2.out, List.all_eq_false]; exact ⟨_, HM.out, by rw [HP.out]; simp [hp1]⟩
            go_wp2
            go_ret
            exact ⟨ret_bool HE.out.symm, rfl⟩
        · have HE : Hid (R = true) := by
            show _ = _
            rw [HR2.out]
            have := HA.out
            rw [List.take_of_length_le (by rw [ba_len]; omega)] at this
            exact this
          clear hk
          go_wp2
          go_ret
          exact ⟨ret_bool HE.out.symm, rfl⟩

end Go.Proofs.YtilcokpaeapmeaaDoor
set_option linter.unusedSimpArgs false
set_option linter.unusedVariables false
namespace Go.Proofs.YtilcokpaeapmeaaDoor
open Go Go.RowKit

theorem okN_fmd (z : Int) : okN z = (z == 0 || fmd z) := rfl
theorem fmd_okN {z : Int} (h : okN z = false) : fmd z = false := by
  rw [okN_fmd] at h
  cases hf : fmd z
  · rfl
  · rw [hf] at h; simp at h

set_option maxRecDepth 100000 in
set_option maxHeartbeats 3200000 in
theorem rValue_any (s : ByteArray) (z : Int) (w : World) (hz : s.data.toList = Lib.itoa z) (hs : s.size ≤ 1099511627776) :
    Calls Tryd.prog 58 #[.string s] w fun e w' => ∃ n : Int, e = .returned (.int .i64 n) ∧ fmd n = fmd z ∧ (okN z = true → n = z) ∧ Below w.heap.size w w' := by
  have hl : s.size = (Lib.itoa z).length := by rw [← hz, ba_len]
  have h0 : 0 < s.size := by rw [hl]; exact List.length_pos_iff.2 (itoa_ne z)
  have hh : s.data.toList.head? = some s[0] := ba_head h0
  have hy : s[0].toNat < 256 := s[0].toNat_lt
  have hneg : z < 0 → s[0] = 45 := fun hn => by
    rw [hz] at hh; unfold Lib.itoa at hh; rw [if_pos hn] at hh; simpa using hh.symm
  have hpos : ¬ z < 0 → s[0] ≠ 45 := fun hn e => by
    rw [hz, e] at hh; unfold Lib.itoa at hh; rw [if_neg hn] at hh
    exact dec_head45 _ hh
  have hbig : 8 < s.size → okN z = false := fun h => by
    cases ho : okN z
    · rfl
    · have := itoa_short ho; omega
  have hn0 : ¬ s.size = 0 := by omega
  by_cases h1 : 11 < s.size ∨ (10 < s.size ∧ ¬ z < 0)
  · have hno : okN z = false := hbig (by omega)
    have HF : Hid (fmd z = false) := fmd_okN hno
    have HN : Hid (okN z = true → False) := fun h => by rw [hno] at h; cases h
    by_cases hn : z < 0
    · have h45 : ((s[0].toNat : Int) == 45) = true := by rw [hneg hn]; rfl
      have h11 : 11 < s.size := by omega
      clear hz hl hh hneg hpos hbig h1 hno hn
      go_enter Tryd.func58, Tryd.ntmps58
      go_wp2
      go_ret
      exact ⟨_, rfl, by rw [HF.out]; decide, fun h => absurd h (fun h => HN.out h), Below.refl _ _⟩
    · have h45 : ((s[0].toNat : Int) == 45) = false := by
        rw [beq_eq_false_iff_ne]; intro e
        have h2 : s[0] = 45 := UInt8.toNat_inj.1 ((by omega : s[0].toNat = 45).trans rfl)
        exact hpos hn h2
      have hq45 : ((s[0].toNat : Int) != 45) = true := by rw [bne, h45]; rfl
      have h10 : 10 < s.size := by omega
      clear hz hl hh hneg hpos hbig h1 hno hn
      by_cases h11 : 11 < s.size
      all_goals
        go_enter Tryd.func58, Tryd.ntmps58
        go_wp2
        go_ret
        exact ⟨_, rfl, by rw [HF.out]; decide, fun h => absurd h (fun h => HN.out h), Below.refl _ _⟩
  · have hr : -10000000000 ≤ z ∧ z ≤ 10000000000 := by
      by_cases hn : z < 0
      · have e : Lib.itoa z = 45 :: Lib.decDigits z.natAbs := by unfold Lib.itoa; rw [if_pos hn]
        rw [e, List.length_cons] at hl
        have := dig_lt (n := z.natAbs) (k := 10) (by omega)
        omega
      · have e : Lib.itoa z = Lib.decDigits z.toNat := by unfold Lib.itoa; rw [if_neg hn]
        rw [e] at hl
        have := dig_lt (n := z.toNat) (k := 10) (by omega)
        omega
    have hc := Tryd.strconv_Atoi_ok s (by omega) z (by rw [hz]; exact atoi_itoa10 hr.1 hr.2) w
    have HC : Hid (Calls Tryd.prog 67 #[.string s] w fun e w' => e = .returned (.tuple #[.int .i64 z, .nilIface]) ∧ Below w.heap.size w w') := hc.mono fun e w' ⟨q1, hw⟩ => ⟨q1, by
      rcases hw with rfl | ⟨t, rfl⟩
      · exact Below.refl _ _
      · exact bytes_below _ _⟩
    have h11 : ¬ 11 < s.size := fun h => h1 (.inl h)
    by_cases hn : z < 0
    · have hq45 : ((s[0].toNat : Int) != 45) = false := by rw [hneg hn]; rfl
      clear hz hl hh hneg hpos hbig h1 hc
      by_cases h10 : 10 < s.size
      all_goals
        go_enter Tryd.func58, Tryd.ntmps58
        go_wp2_with (go_at_call 67; refine HC.out.mono ?_; rintro e w1 ⟨rfl, bel1⟩)
        go_ret
        exact ⟨z, rfl, rfl, fun _ => rfl, bel1⟩
    · have h10 : ¬ 10 < s.size := fun h => h1 (.inr ⟨h, hn⟩)
      clear hz hl hh hneg hpos hbig h1 hc hn
      go_enter Tryd.func58, Tryd.ntmps58
      go_wp2_with (go_at_call 67; refine HC.out.mono ?_; rintro e w1 ⟨rfl, bel1⟩)
      go_ret
      exact ⟨z, rfl, rfl, fun _ => rfl, bel1⟩

/-- is the word a literal -/
def litQ (L : List UInt8) : Bool := match numD L with
  | some z => z != 0
  | none => false
theorem litQ_itoa (z : Int) : litQ (Lib.itoa z) = fmd z := by
  unfold litQ
  rw [numD_of_itoa]
  cases h : okN z
  · rw [fmd_okN h]; rfl
  · rw [okN_fmd] at h
    by_cases hz : z = 0
    · subst hz; rfl
    · have hz2 : (z == 0) = false := by simpa using hz
      rw [hz2, Bool.false_or] at h
      rw [h]; simp [bne, hz2]
theorem litQ_none {L : List UInt8} (h : tensB L = false) : litQ L = false := by
  unfold litQ
  cases hn : numD L with
  | none => rfl
  | some z =>
    rw [(numD_some hn).1, itoa_tens] at h
    cases h
set_option maxRecDepth 100000 in
set_option maxHeartbeats 3200000 in
theorem rLit_any (s : ByteArray) (w : World) (hs : s.size ≤ 1099511627776) :
    Calls Tryd.prog 57 #[.string s] w fun e w' => e = .returned (.bool (litQ s.data.toList)) ∧ Below w.heap.size w w' := by
  have HT : Hid (∀ W, Calls Tryd.prog 66 #[.string s] W fun e w' => e = .returned (.bool (tensB s.data.toList)) ∧ w' = W) := fun W => rTens_any s W hs
  obtain ⟨R, hR⟩ : ∃ R, R = litQ s.data.toList := ⟨_, rfl⟩
  rw [← hR]
  cases ht : tensB s.data.toList
  · have HE : Hid (R = false) := by show _ = _; rw [hR, litQ_none ht]
    rw [ht] at HT
    clear hR ht
    go_enter Tryd.func57, Tryd.ntmps57
    go_wp2_with (go_at_call 66; refine (HT.out _).mono ?_; rintro e w1 ⟨rfl, rfl⟩)
    go_ret
    exact ⟨ret_bool HE.out.symm, Below.refl _ _⟩
  · obtain ⟨z, hz⟩ := tens_itoa ht
    have HE : Hid (R = fmd z) := by show _ = _; rw [hR, hz, litQ_itoa]
    have HV : Hid (∀ W, Calls Tryd.prog 58 #[.string s] W fun e w' => ∃ n : Int, e = .returned (.int .i64 n) ∧ fmd n = fmd z ∧ (okN z = true → n = z) ∧ Below W.heap.size W w') := fun W => rValue_any s z W hz hs
    rw [ht] at HT
    clear hR ht hz
    go_enter Tryd.func57, Tryd.ntmps57
    go_wp2_with (first
      | (go_at_call 66; refine (HT.out _).mono ?_; rintro e w1 ⟨rfl, rfl⟩)
      | (go_at_call 58; refine (HV.out _).mono ?_; rintro e w2 ⟨n, rfl, hn, _, bel2⟩; have HN : Hid (fmd n = fmd z) := hn; clear hn)
      | (go_at_call 50; refine (refFormed_any _ _).mono ?_; rintro e w3 ⟨rfl, rfl⟩))
    go_ret
    exact ⟨ret_bool (by rw [HE.out, HN.out]), bel2⟩

end Go.Proofs.YtilcokpaeapmeaaDoor
set_option linter.unusedSimpArgs false
set_option linter.unusedVariables false
namespace Go.Proofs.YtilcokpaeapmeaaDoor
open Go.RowKit

/-- what is answered: the steps so far, and what is told of the tokens left -/
def finP (n : Nat) (acc : List Stp) (r : List Stp × Option Nat × RSt) : List Stp × Nat :=
  (acc ++ r.1, match r.2.1 with | some k => k | none => if r.2.2.op then n + 1 else 0)
theorem par_finP (s : List UInt8) : finP (lnsF s []).length [] (eatD (toks 1 (lnsF s [])) st0) = parD s := by
  rw [par_lines]; rfl
/-- the tokens of the line's words from a place on, and of the lines behind it -/
def tokR (k : Nat) (ws : List (List UInt8)) (ls : List (List UInt8)) : List Tok := ws.map (fun w => (some w, k)) ++ toks (k + 1) ls
theorem getD_drop {α : Type} (L : List α) (d : α) {k : Nat} (h : k < L.length) : L.drop k = L.getD k d :: L.drop (k + 1) := by
  rw [List.drop_eq_getElem_cons h, List.getD_eq_getElem?_getD, List.getElem?_eq_getElem h]; rfl
theorem fin_rem {n k : Nat} {acc : List Stp} {st : RSt} {ls : List (List UInt8)} {ln : List UInt8} {r : List (List UInt8)} (hL : ls = ln :: r) (h : ln.head? = some 99) (hp : ln.all plB = true) : finP n acc (eatD (toks k ls) st) = finP n acc (eatD (toks (k + 1) r) st) := by
  subst hL; rw [toks, tokL, if_pos h, if_pos hp]; rfl
theorem fin_bad {n k : Nat} {acc : List Stp} {st : RSt} {ls : List (List UInt8)} {ln : List UInt8} {r : List (List UInt8)} (hL : ls = ln :: r) (h : ln.head? = some 99) (hp : ln.all plB = false) : finP n acc (eatD (toks k ls) st) = (acc, k) := by
  subst hL; rw [toks, tokL, if_pos h, if_neg (by simp [hp])]; simp [eatD, finP]
theorem fin_line {n k : Nat} {acc : List Stp} {st : RSt} {ls : List (List UInt8)} {ln : List UInt8} {r : List (List UInt8)} (hL : ls = ln :: r) (h : ln.head? ≠ some 99) : finP n acc (eatD (toks k ls) st) = finP n acc (eatD (tokR k (wdsF ln []) r) st) := by
  subst hL; rw [toks, tokL, if_neg h]; rfl
theorem fin_next {n k : Nat} {acc : List Stp} {st : RSt} {r : List (List UInt8)} : finP n acc (eatD (tokR k [] r) st) = finP n acc (eatD (toks (k + 1) r) st) := rfl
theorem fin_take {n k : Nat} {acc : List Stp} {st st' : RSt} {w : List UInt8} {ws r : List (List UInt8)} {g : List Stp} (h : takeW st w = some (st', g)) : finP n acc (eatD (tokR k (w :: ws) r) st) = finP n (acc ++ g) (eatD (tokR k ws r) st') := by
  unfold tokR
  rw [List.map_cons, List.cons_append, eatD, h]
  simp only [finP, List.append_assoc]
theorem fin_no {n k : Nat} {acc : List Stp} {st : RSt} {w : List UInt8} {ws r : List (List UInt8)} (h : takeW st w = none) : finP n acc (eatD (tokR k (w :: ws) r) st) = (acc, k) := by
  unfold tokR
  rw [List.map_cons, List.cons_append, eatD, h]
  simp [finP]
theorem fin_end {n k : Nat} {acc : List Stp} {st : RSt} : finP n acc (eatD (toks k []) st) = (acc, if st.op then n + 1 else 0) := by simp [toks, eatD, finP]

/-- what becomes of a word -/
theorem takeP_d {dr : Bool} {cl : List Int} : takeW ⟨false, dr, cl⟩ [100] = some (⟨true, true, cl⟩, []) := rfl
theorem numD_48 : numD [48] = some 0 := rfl
theorem takeP_0 (st : RSt) : takeW st [48] = some (⟨false, false, []⟩, [(st.dr, st.cl)]) := by
  unfold takeW
  rw [numD_48]
  simp
theorem takeP_l {st : RSt} {w : List UInt8} (h : (w == [100] && !st.op) = false) (h0 : w ≠ [48]) (hq : litQ w = true) : ∃ z : Int, w = Lib.itoa z ∧ okN z = true ∧ takeW st w = some (⟨true, st.dr, st.cl ++ [z]⟩, []) := by
  unfold litQ at hq
  cases hn : numD w with
  | none => rw [hn] at hq; cases hq
  | some z =>
    rw [hn] at hq
    have hz : z ≠ 0 := by simpa using hq
    obtain ⟨e1, e2⟩ := numD_some hn
    refine ⟨z, e1, e2, ?_⟩
    unfold takeW
    rw [h, hn]
    simp [hz]
theorem takeP_n {st : RSt} {w : List UInt8} (h : (w == [100] && !st.op) = false) (h0 : w ≠ [48]) (hq : litQ w = false) : takeW st w = none := by
  unfold takeW
  rw [h]
  unfold litQ at hq
  cases hn : numD w with
  | none => simp
  | some z =>
    rw [hn] at hq
    have hz : z = 0 := by simpa using hq
    obtain ⟨e1, e2⟩ := numD_some hn
    subst hz
    exfalso; apply h0; rw [e1]
    unfold Lib.itoa
    rw [if_neg (by omega), show (0 : Int).toNat = 0 from rfl, Lib.decDigits]; rfl

/-! sizes -/
theorem wds_len : ∀ (s cur : List UInt8), (wdsF s cur).length ≤ s.length + cur.length
  | [], cur => by cases cur <;> simp [wdsF]
  | b :: r, cur => by
    rw [wdsF]
    split
    · have := wds_len r []
      cases cur <;> simp at this ⊢ <;> omega
    · have := wds_len r (cur ++ [b])
      simp at this ⊢; omega
theorem wds_each : ∀ (s cur : List UInt8), ∀ x ∈ wdsF s cur, x.length ≤ s.length + cur.length
  | [], cur => by
    intro x hx
    cases cur with
    | nil => simp [wdsF] at hx
    | cons c r => simp [wdsF] at hx; subst hx; simp
  | b :: r, cur => by
    intro x hx
    rw [wdsF] at hx
    split at hx
    · rcases List.mem_append.1 hx with hx | hx
      · split at hx
        · cases hx
        · obtain rfl : x = cur := by simpa using hx
          simp
      · have := wds_each r [] x hx
        simp at this ⊢; omega
    · have := wds_each r (cur ++ [b]) x hx
      simp at this ⊢; omega
def lenS (ls : List (List UInt8)) : Nat := (ls.map List.length).sum
theorem lns_len : ∀ (s cur : List UInt8), (lnsF s cur).length ≤ s.length + cur.length
  | [], cur => by cases cur <;> simp [lnsF]
  | b :: r, cur => by
    rw [lnsF]
    split
    · have := lns_len r []
      simp at this ⊢; omega
    · have := lns_len r (cur ++ [b])
      simp at this ⊢; omega
theorem lns_sum : ∀ (s cur : List UInt8), lenS (lnsF s cur) ≤ s.length + cur.length
  | [], cur => by cases cur <;> simp [lnsF, lenS]
  | b :: r, cur => by
    rw [lnsF]
    split
    · have := lns_sum r []
      simp [lenS] at this ⊢; omega
    · have := lns_sum r (cur ++ [b])
      simp [lenS] at this ⊢; omega
theorem lenS_cons (ln : List UInt8) (r : List (List UInt8)) : lenS (ln :: r) = ln.length + lenS r := by simp [lenS]
theorem lenS_each : ∀ (ls : List (List UInt8)), ∀ x ∈ ls, x.length ≤ lenS ls
  | [], x, h => by cases h
  | y :: r, x, h => by
    rw [lenS_cons]
    rcases List.mem_cons.1 h with rfl | h
    · omega
    · have := lenS_each r x h; omega

end Go.Proofs.YtilcokpaeapmeaaDoor
