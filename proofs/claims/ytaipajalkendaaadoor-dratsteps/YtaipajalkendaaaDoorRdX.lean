/-
  The document's Value and literal, walked.
  KEEP: len below nil form rd mono on app start at new trans refl kept own row out grown rdz
-/
import Derived.Test.YtaipajalkendaaaDoorRdV
set_option linter.unusedSimpArgs false
set_option linter.unusedVariables false
namespace Go.Proofs.YtaipajalkendaaaDoor
open Go Go.RowKit

theorem okN_fmd (z : Int) : okN z = (z == 0 || fmd z) := rfl
theorem fmd_okN {z : Int} (h : okN z = false) : fmd z = false := by
  rw [okN_fmd] at h
  cases hf : fmd z
  · rfl
  · rw [hf] at h; simp at h

set_option maxRecDepth 100000 in
set_option maxHeartbeats 3200000 in
theorem rValue_any (s : ByteArray) (z : Int) (w : World) (hz : s.data.toList = Lib.itoa z) (hs : s.size ≤ 1099511627776) :
    Calls Tryd.prog 29 #[.string s] w fun e w' => ∃ n : Int, e = .returned (.int .i64 n) ∧ fmd n = fmd z ∧ (okN z = true → n = z) ∧ Below w.heap.size w w' := by
  have hl : s.size = (Lib.itoa z).length := by rw [← hz, ba_len]
  have h0 : 0 < s.size := by rw [hl]; exact List.length_pos_iff.2 (itoa_ne z)
  have hh : s.data.toList.head? = some s[0] := ba_head h0
  have hy : s[0].toNat < 256 := s[0].toNat_lt
  have hneg : z < 0 → s[0] = 45 := fun hn => by
    rw [hz] at hh; unfold Lib.itoa at hh; rw [if_pos hn] at hh; simpa using hh.symm
  have hpos : ¬ z < 0 → s[0] ≠ 45 := fun hn e => by
    rw [hz, e] at hh; unfold Lib.itoa at hh; rw [if_neg hn] at hh
    exact dec_head45 _ hh
  have hbig : 8 < s.size → okN z = false := fun h => by
    cases ho : okN z
    · rfl
    · have := itoa_short ho; omega
  have hn0 : ¬ s.size = 0 := by omega
  by_cases h1 : 11 < s.size ∨ (10 < s.size ∧ ¬ z < 0)
  · have hno : okN z = false := hbig (by omega)
    have HF : Hid (fmd z = false) := fmd_okN hno
    have HN : Hid (okN z = true → False) := fun h => by rw [hno] at h; cases h
    by_cases hn : z < 0
    · have h45 : ((s[0].toNat : Int) == 45) = true := by rw [hneg hn]; rfl
      have h11 : 11 < s.size := by omega
      clear hz hl hh hneg hpos hbig h1 hno hn
      go_enter Tryd.func29, Tryd.ntmps29
      go_wp2
      go_ret
      exact ⟨_, rfl, by rw [HF.out]; decide, fun h => absurd h (fun h => HN.out h), Below.refl _ _⟩
    · have h45 : ((s[0].toNat : Int) == 45) = false := by
        rw [beq_eq_false_iff_ne]; intro e
        have h2 : s[0] = 45 := UInt8.toNat_inj.1 ((by omega : s[0].toNat = 45).trans rfl)
        exact hpos hn h2
      have hq45 : ((s[0].toNat : Int) != 45) = true := by rw [bne, h45]; rfl
      have h10 : 10 < s.size := by omega
      clear hz hl hh hneg hpos hbig h1 hno hn
      by_cases h11 : 11 < s.size
      all_goals
        go_enter Tryd.func29, Tryd.ntmps29
        go_wp2
        go_ret
        exact ⟨_, rfl, by rw [HF.out]; decide, fun h => absurd h (fun h => HN.out h), Below.refl _ _⟩
  · have hr : -10000000000 ≤ z ∧ z ≤ 10000000000 := by
      by_cases hn : z < 0
      · have e : Lib.itoa z = 45 :: Lib.decDigits z.natAbs := by unfold Lib.itoa; rw [if_pos hn]
        rw [e, List.length_cons] at hl
        have := dig_lt (n := z.natAbs) (k := 10) (by omega)
        omega
      · have e : Lib.itoa z = Lib.decDigits z.toNat := by unfold Lib.itoa; rw [if_neg hn]
        rw [e] at hl
        have := dig_lt (n := z.toNat) (k := 10) (by omega)
        omega
    have hc := Tryd.strconv_Atoi_ok s (by omega) z (by rw [hz]; exact atoi_itoa10 hr.1 hr.2) w
    have HC : Hid (Calls Tryd.prog 50 #[.string s] w fun e w' => e = .returned (.tuple #[.int .i64 z, .nilIface]) ∧ Below w.heap.size w w') := hc.mono fun e w' ⟨q1, hw⟩ => ⟨q1, by
      rcases hw with rfl | ⟨t, rfl⟩
      · exact Below.refl _ _
      · exact bytes_below _ _⟩
    have h11 : ¬ 11 < s.size := fun h => h1 (.inl h)
    by_cases hn : z < 0
    · have hq45 : ((s[0].toNat : Int) != 45) = false := by rw [hneg hn]; rfl
      clear hz hl hh hneg hpos hbig h1 hc
      by_cases h10 : 10 < s.size
      all_goals
        go_enter Tryd.func29, Tryd.ntmps29
        go_wp2_with (go_at_call 50; refine HC.out.mono ?_; rintro e w1 ⟨rfl, bel1⟩)
        go_ret
        exact ⟨z, rfl, rfl, fun _ => rfl, bel1⟩
    · have h10 : ¬ 10 < s.size := fun h => h1 (.inr ⟨h, hn⟩)
      clear hz hl hh hneg hpos hbig h1 hc hn
      go_enter Tryd.func29, Tryd.ntmps29
      go_wp2_with (go_at_call 50; refine HC.out.mono ?_; rintro e w1 ⟨rfl, bel1⟩)
      go_ret
      exact ⟨z, rfl, rfl, fun _ => rfl, bel1⟩

/-- is the word a literal -/
def litQ (L : List UInt8) : Bool := match numD L with
  | some z => z != 0
  | none => false
theorem litQ_itoa (z : Int) : litQ (Lib.itoa z) = fmd z := by
  unfold litQ
  rw [numD_of_itoa]
  cases h : okN z
  · rw [fmd_okN h]; rfl
  · rw [okN_fmd] at h
    by_cases hz : z = 0
    · subst hz; rfl
    · have hz2 : (z == 0) = false := by simpa using hz
      rw [hz2, Bool.false_or] at h
      rw [h]; simp [bne, hz2]
theorem litQ_none {L : List UInt8} (h : tensB L = false) : litQ L = false := by
  unfold litQ
  cases hn : numD L with
  | none => rfl
  | some z =>
    rw [(numD_some hn).1, itoa_tens] at h
    cases h
set_option maxRecDepth 100000 in
set_option maxHeartbeats 3200000 in
theorem rLit_any (s : ByteArray) (w : World) (hs : s.size ≤ 1099511627776) :
    Calls Tryd.prog 56 #[.string s] w fun e w' => e = .returned (.bool (litQ s.data.toList)) ∧ Below w.heap.size w w' := by
  have HT : Hid (∀ W, Calls Tryd.prog 30 #[.string s] W fun e w' => e = .returned (.bool (tensB s.data.toList)) ∧ w' = W) := fun W => rTens_any s W hs
  obtain ⟨R, hR⟩ : ∃ R, R = litQ s.data.toList := ⟨_, rfl⟩
  rw [← hR]
  cases ht : tensB s.data.toList
  · have HE : Hid (R = false) := by show _ = _; rw [hR, litQ_none ht]
    rw [ht] at HT
    clear hR ht
    go_enter Tryd.func56, Tryd.ntmps56
    go_wp2_with (go_at_call 30; refine (HT.out _).mono ?_; rintro e w1 ⟨rfl, rfl⟩)
    go_ret
    exact ⟨ret_bool HE.out.symm, Below.refl _ _⟩
  · obtain ⟨z, hz⟩ := tens_itoa ht
    have HE : Hid (R = fmd z) := by show _ = _; rw [hR, hz, litQ_itoa]
    have HV : Hid (∀ W, Calls Tryd.prog 29 #[.string s] W fun e w' => ∃ n : Int, e = .returned (.int .i64 n) ∧ fmd n = fmd z ∧ (okN z = true → n = z) ∧ Below W.heap.size W w') := fun W => rValue_any s z W hz hs
    rw [ht] at HT
    clear hR ht hz
    go_enter Tryd.func56, Tryd.ntmps56
    go_wp2_with (first
      | (go_at_call 30; refine (HT.out _).mono ?_; rintro e w1 ⟨rfl, rfl⟩)
      | (go_at_call 29; refine (HV.out _).mono ?_; rintro e w2 ⟨n, rfl, hn, _, bel2⟩; have HN : Hid (fmd n = fmd z) := hn; clear hn)
      | (go_at_call 68; refine (refFormed_any _ _).mono ?_; rintro e w3 ⟨rfl, rfl⟩))
    go_ret
    exact ⟨ret_bool (by rw [HE.out, HN.out]), bel2⟩

end Go.Proofs.YtaipajalkendaaaDoor
