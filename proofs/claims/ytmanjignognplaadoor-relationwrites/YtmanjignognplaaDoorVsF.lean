/-
  The document's Legal, Cut, walked (walks/genvsf.py writes it).
  KEEP: set below kept
-/
import Derived.Test.YtmanjignognplaaDoorVsE
set_option linter.unusedSimpArgs false
set_option linter.unusedVariables false
namespace Go.Proofs.YtmanjignognplaaDoor
open Go Go.RowKit

theorem h0_at (U : ByteArray) (h : 0 < U.size) : h0B U = digR ((U[0]'h).toNat : Int) := by
  have hd := drop20 h
  rw [List.drop_zero] at hd
  unfold h0B
  rw [hd]
theorem emp20 (s : ByteArray) : s.data.toList.isEmpty = s.toList.isEmpty := by rw [ByteArray.toList_eq]
theorem pos20 {s : ByteArray} (h : s.toList.isEmpty = false) : 0 < s.size := by
  rw [← emp20] at h
  have h1 := size20 s
  cases hl : s.data.toList with
  | nil => rw [hl] at h; cases h
  | cons b r => rw [hl] at h1; simp at h1; omega
theorem emp_nil {s : ByteArray} (h : s.toList.isEmpty = true) : s.toList = [] := by simpa using h
theorem emp_cons {s : ByteArray} (h : s.toList.isEmpty = false) : ¬ s.toList = [] := by simpa using h

set_option maxHeartbeats 6400000 in
set_option maxRecDepth 20000 in
theorem rLegal20_any (s : ByteArray) (w : World) (hs : s.size ≤ 281474976710656) :
    Calls Tryd.prog 26 #[.string s] w fun e w' => e = .returned (.bool (okS s)) ∧ Below w.heap.size w w' := by
  have HP' := parted20_any s w hs
  have HO' := (ok_eq s).symm
  have hsE : (epS s).size ≤ 281474976710656 := by unfold epS; split; exact Nat.zero_le _; rw [ByteArray.size_extract]; omega
  have hsT : (taS s).size ≤ 281474976710656 := by unfold taS; split; exact hs; rw [ByteArray.size_extract]; omega
  have hsU : (upS (taS s)).size ≤ 281474976710656 := by
    generalize taS s = T at *
    unfold upS; split; exact hsT; rw [ByteArray.size_extract]; omega
  have hsR : (reS (taS s)).size ≤ 281474976710656 := by
    generalize taS s = T at *
    unfold reS; split; exact Nat.zero_le _; rw [ByteArray.size_extract]; omega
  unfold ptV at HP'
  generalize epS s = E at *
  generalize upS (taS s) = U at *
  generalize reS (taS s) = R at *
  generalize decide (0 ≤ iC s) = C at *
  generalize decide (0 ≤ iM (taS s)) = M at *
  have HP : Hid (Calls Tryd.prog 39 #[.string s] w fun e w' => e = .returned (.agg #[.string E, .string U, .string R, .bool C, .bool M]) ∧ Below w.heap.size w w') := HP'
  have HO : Hid (okS s = dOk C M E U R) := HO'
  clear HP' HO' hs hsT
  generalize okS s = OK at *
  go_enter Tryd.func26, Tryd.ntmps26
  go_wp2_with fail
  refine HP.out.mono ?_
  rintro e w1 ⟨rfl, bel1⟩
  have HB' : Below w.heap.size w (w1.alloc (.cells #[.string E, .string U, .string R, .bool C, .bool M] 75)) := Below.alloc bel1 bel1.size _
  have B' : Bq (w1.alloc (.cells #[.string E, .string U, .string R, .bool C, .bool M] 75)) w1.heap.size E U R C M := Bq.newS _ _ _ _ _ _ _ rfl
  clear bel1 HP
  go_upto_region 2 with fail
  generalize w1.alloc (.cells #[.string E, .string U, .string R, .bool C, .bool M] 75) = W at *
  have HB : Hid (Below w.heap.size w W) := HB'
  have BX : Hid (Bq W w1.heap.size E U R C M) := B'
  have c0 := BX.out.c0
  have c1 := BX.out.c1
  have c2 := BX.out.c2
  have c3 := BX.out.c3
  have c4 := BX.out.c4
  generalize w1.heap.size = D at *
  clear HB' B'
  have HOd : Hid (OK = (!((C && E.toList.isEmpty) || (M && R.toList.isEmpty) || U.toList.isEmpty || !h0B U) && (E.data.toList.all (fun b => digR b.toNat) && (U.data.toList.all (fun b => upD C b.toNat) && R.data.toList.all (fun b => reD b.toNat))))) := by show _ = _; rw [HO.out, dOk, emp20, emp20, emp20]
  clear HO
  cases C
  · cases M
    · cases hU : U.toList.isEmpty
      rotate_left
      · have hU2 := emp_nil hU
        go_wp2
        go_ret
        exact ⟨ret_bool (by rw [HOd.out]; simp [hU]), HB.out⟩
      · have hU2 := emp_cons hU
        have h0 : 0 < U.size := pos20 hU
        have HRd0 : Hid (∀ V, Calls Tryd.prog 40 #[.int .u8 (((U[0]'h0).toNat : Nat) : Int)] V fun e w' => e = .returned (.bool (digR ((U[0]'h0).toNat : Int))) ∧ w' = V) := fun V => rDigit20_any _ V
        have hh := h0_at U h0
        cases hd : digR ((U[0]'h0).toNat : Int)
        · rw [hd] at HRd0 hh
          go_wp2_with (go_at_call 40; refine (HRd0.out _).mono ?_; rintro e w9 ⟨rfl, h9⟩; have h9s := h9.symm; clear h9; subst h9s)
          go_ret
          exact ⟨ret_bool (by rw [HOd.out]; simp [hU, hh]), HB.out⟩
        · rw [hd] at HRd0 hh
          have HO1 : Hid (OK = (E.data.toList.all (fun b => digR b.toNat) && (U.data.toList.all (fun b => upD false b.toNat) && R.data.toList.all (fun b => reD b.toNat)))) := by show _ = _; rw [HOd.out]; simp [hU, hh]
          clear HOd
          go_wp2_with (go_at_call 40; refine (HRd0.out _).mono ?_; rintro e w9 ⟨rfl, h9⟩; have h9s := h9.symm; clear h9; subst h9s)
          clear HRd0 hd hh
          have HA1 : Hid (E.data.toList.all (fun b => digR b.toNat) = (E.data.toList.drop 0).all (fun b => digR b.toNat)) := rfl
          have HSz1 : Hid (E.data.toList.length = E.size) := size20 E
          generalize hA1 : E.data.toList.all (fun b => digR b.toNat) = a1 at *
          clear hA1
          go_loopg [4] E.size (fun g i wr => ∃ k : Nat, k + g = E.size ∧ i = .int .i64 k ∧ Hid (a1 = (E.data.toList.drop k).all (fun b => digR b.toNat)) ∧ W = wr)
          case atStart => exact ⟨0, by omega, rfl, HA1.out, rfl⟩
          case round =>
            obtain ⟨k, hk, rfl, HK, hwr⟩ := hrel
            subst hwr
            have HG : Hid (k + gk = E.size) := hk
            by_cases hlt : k < E.size
            · have HD : Hid (E.data.toList.drop k = E[k] :: E.data.toList.drop (k + 1)) := drop20 hlt
              have HK2 : Hid (a1 = (digR (E[k]'hlt).toNat && (E.data.toList.drop (k + 1)).all (fun b => digR b.toNat))) := by show _ = _; rw [HK.out, HD.out, List.all_cons]
              clear hk HK HD
              have hzr : 0 ≤ (((E[k]'hlt).toNat : Nat) : Int) ∧ (((E[k]'hlt).toNat : Nat) : Int) < 256 := ⟨by omega, by have := (E[k]'hlt).toNat_lt; omega⟩
              obtain ⟨z, hz⟩ : ∃ z : Int, z = (((E[k]'hlt).toNat : Nat) : Int) := ⟨_, rfl⟩
              rw [← hz] at HK2 hzr
              have hzz : (((E[k]'hlt).toNat : Nat) : Int) = z := hz.symm
              clear hz
              have HRd : Hid (∀ V, Calls Tryd.prog 40 #[.int .u8 z] V fun e w' => e = .returned (.bool (digR z)) ∧ w' = V) := fun V => rDigit20_any z V
              have HRl : Hid (∀ V, Calls Tryd.prog 41 #[.int .u8 z] V fun e w' => e = .returned (.bool (letR z)) ∧ w' = V) := fun V => rLetter20_any z V
              cases h0 : digR z
              · rw [h0] at HRd
                have HF : Hid (digR z = false) := by show _ = _; first | assumption | decide | (unfold digR; simp [h0])
                have HE : Hid (a1 = false) := by show _ = _; rw [HK2.out, HF.out]; rfl
                clear HK2 HF
                go_wp2_with (first | (go_at_call 41; refine (HRl.out _).mono ?_; rintro e w9 ⟨rfl, h9⟩; have h9s := h9.symm; clear h9; subst h9s) | (go_at_call 40; refine (HRd.out _).mono ?_; rintro e w9 ⟨rfl, h9⟩; have h9s := h9.symm; clear h9; subst h9s))
                go_ret
                exact ⟨ret_bool (by rw [HO1.out, HE.out]; try rfl), HB.out⟩
              · rw [h0] at HRd
                have HT : Hid (digR z = true) := by show _ = _; first | assumption | decide | (unfold digR; simp [h0])
                have HK3 : Hid (a1 = (E.data.toList.drop (k + 1)).all (fun b => digR b.toNat)) := by show _ = _; rw [HK2.out, HT.out]; rfl
                clear HK2 HT
                go_wp2_with (first | (go_at_call 41; refine (HRl.out _).mono ?_; rintro e w9 ⟨rfl, h9⟩; have h9s := h9.symm; clear h9; subst h9s) | (go_at_call 40; refine (HRd.out _).mono ?_; rintro e w9 ⟨rfl, h9⟩; have h9s := h9.symm; clear h9; subst h9s))
                go_roundg (gk - 1)
                case measure => have := HG.out; omega
                case rel => exact ⟨k + 1, by have := HG.out; omega, by first | rfl | go_num, HK3.out, rfl⟩
            · have HE : Hid (a1 = true) := by show _ = _; rw [HK.out, List.drop_eq_nil_of_le (by rw [HSz1.out]; omega)]; rfl
              clear HK hk
              have HO2 : Hid (OK = (U.data.toList.all (fun b => upD false b.toNat) && R.data.toList.all (fun b => reD b.toNat))) := by show _ = _; rw [HO1.out, HE.out]; rfl
              clear HO1 HE HA1 HSz1
              go_wp2_with fail
              have HA2 : Hid (U.data.toList.all (fun b => upD false b.toNat) = (U.data.toList.drop 0).all (fun b => upD false b.toNat)) := rfl
              have HSz2 : Hid (U.data.toList.length = U.size) := size20 U
              generalize hA2 : U.data.toList.all (fun b => upD false b.toNat) = a2 at *
              clear hA2
              go_loopg [5, 6] U.size (fun g i j0 wr => ∃ k : Nat, k + g = U.size ∧ i = .int .i64 k ∧ Hid (a2 = (U.data.toList.drop k).all (fun b => upD false b.toNat)) ∧ W = wr)
              case atStart => exact ⟨0, by omega, rfl, HA2.out, rfl⟩
              case round =>
                obtain ⟨k, hk, rfl, HK, hwr⟩ := hrel
                subst hwr
                have HG : Hid (k + gk = U.size) := hk
                by_cases hlt : k < U.size
                · have HD : Hid (U.data.toList.drop k = U[k] :: U.data.toList.drop (k + 1)) := drop20 hlt
                  have HK2 : Hid (a2 = (upD false (U[k]'hlt).toNat && (U.data.toList.drop (k + 1)).all (fun b => upD false b.toNat))) := by show _ = _; rw [HK.out, HD.out, List.all_cons]
                  clear hk HK HD
                  have hzr : 0 ≤ (((U[k]'hlt).toNat : Nat) : Int) ∧ (((U[k]'hlt).toNat : Nat) : Int) < 256 := ⟨by omega, by have := (U[k]'hlt).toNat_lt; omega⟩
                  obtain ⟨z, hz⟩ : ∃ z : Int, z = (((U[k]'hlt).toNat : Nat) : Int) := ⟨_, rfl⟩
                  rw [← hz] at HK2 hzr
                  have hzz : (((U[k]'hlt).toNat : Nat) : Int) = z := hz.symm
                  clear hz
                  have HRd : Hid (∀ V, Calls Tryd.prog 40 #[.int .u8 z] V fun e w' => e = .returned (.bool (digR z)) ∧ w' = V) := fun V => rDigit20_any z V
                  have HRl : Hid (∀ V, Calls Tryd.prog 41 #[.int .u8 z] V fun e w' => e = .returned (.bool (letR z)) ∧ w' = V) := fun V => rLetter20_any z V
                  cases h0 : letR z
                  · rw [h0] at HRl
                    cases h1 : digR z
                    · rw [h1] at HRd
                      by_cases h2 : z = 46
                      · subst h2
                        have HT : Hid (upD false 46 = true) := by show _ = _; first | assumption | decide | (unfold upD; simp [h0, h1])
                        have HK3 : Hid (a2 = (U.data.toList.drop (k + 1)).all (fun b => upD false b.toNat)) := by show _ = _; rw [HK2.out, HT.out]; rfl
                        clear HK2 HT
                        go_wp2_with (first | (go_at_call 41; refine (HRl.out _).mono ?_; rintro e w9 ⟨rfl, h9⟩; have h9s := h9.symm; clear h9; subst h9s) | (go_at_call 40; refine (HRd.out _).mono ?_; rintro e w9 ⟨rfl, h9⟩; have h9s := h9.symm; clear h9; subst h9s))
                        go_roundg (gk - 1)
                        case measure => have := HG.out; omega
                        case rel => exact ⟨k + 1, by have := HG.out; omega, by first | rfl | go_num, HK3.out, rfl⟩
                      · have b2 : (z != 46) = true := by simpa using h2
                        have d2 : (z == 46) = false := by simpa using h2
                        by_cases h3 : z = 43
                        · subst h3
                          have HT : Hid (upD false 43 = true) := by show _ = _; first | assumption | decide | (unfold upD; simp [h0, h1, h2])
                          have HK3 : Hid (a2 = (U.data.toList.drop (k + 1)).all (fun b => upD false b.toNat)) := by show _ = _; rw [HK2.out, HT.out]; rfl
                          clear HK2 HT
                          go_wp2_with (first | (go_at_call 41; refine (HRl.out _).mono ?_; rintro e w9 ⟨rfl, h9⟩; have h9s := h9.symm; clear h9; subst h9s) | (go_at_call 40; refine (HRd.out _).mono ?_; rintro e w9 ⟨rfl, h9⟩; have h9s := h9.symm; clear h9; subst h9s))
                          go_roundg (gk - 1)
                          case measure => have := HG.out; omega
                          case rel => exact ⟨k + 1, by have := HG.out; omega, by first | rfl | go_num, HK3.out, rfl⟩
                        · have b3 : (z != 43) = true := by simpa using h3
                          have d3 : (z == 43) = false := by simpa using h3
                          by_cases h4 : z = 45
                          · subst h4
                            have HT : Hid (upD false 45 = true) := by show _ = _; first | assumption | decide | (unfold upD; simp [h0, h1, h2, h3])
                            have HK3 : Hid (a2 = (U.data.toList.drop (k + 1)).all (fun b => upD false b.toNat)) := by show _ = _; rw [HK2.out, HT.out]; rfl
                            clear HK2 HT
                            go_wp2_with (first | (go_at_call 41; refine (HRl.out _).mono ?_; rintro e w9 ⟨rfl, h9⟩; have h9s := h9.symm; clear h9; subst h9s) | (go_at_call 40; refine (HRd.out _).mono ?_; rintro e w9 ⟨rfl, h9⟩; have h9s := h9.symm; clear h9; subst h9s))
                            go_roundg (gk - 1)
                            case measure => have := HG.out; omega
                            case rel => exact ⟨k + 1, by have := HG.out; omega, by first | rfl | go_num, HK3.out, rfl⟩
                          · have b4 : (z != 45) = true := by simpa using h4
                            have d4 : (z == 45) = false := by simpa using h4
                            by_cases h5 : z = 126
                            · subst h5
                              have HT : Hid (upD false 126 = true) := by show _ = _; first | assumption | decide | (unfold upD; simp [h0, h1, h2, h3, h4])
                              have HK3 : Hid (a2 = (U.data.toList.drop (k + 1)).all (fun b => upD false b.toNat)) := by show _ = _; rw [HK2.out, HT.out]; rfl
                              clear HK2 HT
                              go_wp2_with (first | (go_at_call 41; refine (HRl.out _).mono ?_; rintro e w9 ⟨rfl, h9⟩; have h9s := h9.symm; clear h9; subst h9s) | (go_at_call 40; refine (HRd.out _).mono ?_; rintro e w9 ⟨rfl, h9⟩; have h9s := h9.symm; clear h9; subst h9s))
                              go_roundg (gk - 1)
                              case measure => have := HG.out; omega
                              case rel => exact ⟨k + 1, by have := HG.out; omega, by first | rfl | go_num, HK3.out, rfl⟩
                            · have b5 : (z != 126) = true := by simpa using h5
                              have d5 : (z == 126) = false := by simpa using h5
                              by_cases hx : z = 58
                              · subst hx
                                have HF : Hid (upD false 58 = false) := by show _ = _; first | assumption | decide | (unfold upD; simp [h0, h1, h2, h3, h4, h5])
                                have HE : Hid (a2 = false) := by show _ = _; rw [HK2.out, HF.out]; rfl
                                clear HK2 HF
                                go_wp2_with (first | (go_at_call 41; refine (HRl.out _).mono ?_; rintro e w9 ⟨rfl, h9⟩; have h9s := h9.symm; clear h9; subst h9s) | (go_at_call 40; refine (HRd.out _).mono ?_; rintro e w9 ⟨rfl, h9⟩; have h9s := h9.symm; clear h9; subst h9s))
                                go_ret
                                exact ⟨ret_bool (by rw [HO2.out, HE.out]; try rfl), HB.out⟩
                              · have hy : (z == 58) = false := by simpa using hx
                                have HF : Hid (upD false z = false) := by show _ = _; first | assumption | decide | (unfold upD; simp [h0, h1, h2, h3, h4, h5])
                                have HE : Hid (a2 = false) := by show _ = _; rw [HK2.out, HF.out]; rfl
                                clear HK2 HF
                                go_wp2_with (first | (go_at_call 41; refine (HRl.out _).mono ?_; rintro e w9 ⟨rfl, h9⟩; have h9s := h9.symm; clear h9; subst h9s) | (go_at_call 40; refine (HRd.out _).mono ?_; rintro e w9 ⟨rfl, h9⟩; have h9s := h9.symm; clear h9; subst h9s))
                                go_ret
                                exact ⟨ret_bool (by rw [HO2.out, HE.out]; try rfl), HB.out⟩
                    · rw [h1] at HRd
                      have HT : Hid (upD false z = true) := by show _ = _; first | assumption | decide | (unfold upD; simp [h0, h1])
                      have HK3 : Hid (a2 = (U.data.toList.drop (k + 1)).all (fun b => upD false b.toNat)) := by show _ = _; rw [HK2.out, HT.out]; rfl
                      clear HK2 HT
                      go_wp2_with (first | (go_at_call 41; refine (HRl.out _).mono ?_; rintro e w9 ⟨rfl, h9⟩; have h9s := h9.symm; clear h9; subst h9s) | (go_at_call 40; refine (HRd.out _).mono ?_; rintro e w9 ⟨rfl, h9⟩; have h9s := h9.symm; clear h9; subst h9s))
                      go_roundg (gk - 1)
                      case measure => have := HG.out; omega
                      case rel => exact ⟨k + 1, by have := HG.out; omega, by first | rfl | go_num, HK3.out, rfl⟩
                  · rw [h0] at HRl
                    have HT : Hid (upD false z = true) := by show _ = _; first | assumption | decide | (unfold upD; simp [h0])
                    have HK3 : Hid (a2 = (U.data.toList.drop (k + 1)).all (fun b => upD false b.toNat)) := by show _ = _; rw [HK2.out, HT.out]; rfl
                    clear HK2 HT
                    go_wp2_with (first | (go_at_call 41; refine (HRl.out _).mono ?_; rintro e w9 ⟨rfl, h9⟩; have h9s := h9.symm; clear h9; subst h9s) | (go_at_call 40; refine (HRd.out _).mono ?_; rintro e w9 ⟨rfl, h9⟩; have h9s := h9.symm; clear h9; subst h9s))
                    go_roundg (gk - 1)
                    case measure => have := HG.out; omega
                    case rel => exact ⟨k + 1, by have := HG.out; omega, by first | rfl | go_num, HK3.out, rfl⟩
                · have HE : Hid (a2 = true) := by show _ = _; rw [HK.out, List.drop_eq_nil_of_le (by rw [HSz2.out]; omega)]; rfl
                  clear HK hk
                  have HO3 : Hid (OK = R.data.toList.all (fun b => reD b.toNat)) := by show _ = _; rw [HO2.out, HE.out]; rfl
                  clear HO2 HE HA2 HSz2
                  go_wp2_with fail
                  have HA3 : Hid (R.data.toList.all (fun b => reD b.toNat) = (R.data.toList.drop 0).all (fun b => reD b.toNat)) := rfl
                  have HSz3 : Hid (R.data.toList.length = R.size) := size20 R
                  generalize hA3 : R.data.toList.all (fun b => reD b.toNat) = a3 at *
                  clear hA3
                  go_loopg [7, 8] R.size (fun g i j0 wr => ∃ k : Nat, k + g = R.size ∧ i = .int .i64 k ∧ Hid (a3 = (R.data.toList.drop k).all (fun b => reD b.toNat)) ∧ W = wr)
                  case atStart => exact ⟨0, by omega, rfl, HA3.out, rfl⟩
                  case round =>
                    obtain ⟨k, hk, rfl, HK, hwr⟩ := hrel
                    subst hwr
                    have HG : Hid (k + gk = R.size) := hk
                    by_cases hlt : k < R.size
                    · have HD : Hid (R.data.toList.drop k = R[k] :: R.data.toList.drop (k + 1)) := drop20 hlt
                      have HK2 : Hid (a3 = (reD (R[k]'hlt).toNat && (R.data.toList.drop (k + 1)).all (fun b => reD b.toNat))) := by show _ = _; rw [HK.out, HD.out, List.all_cons]
                      clear hk HK HD
                      have hzr : 0 ≤ (((R[k]'hlt).toNat : Nat) : Int) ∧ (((R[k]'hlt).toNat : Nat) : Int) < 256 := ⟨by omega, by have := (R[k]'hlt).toNat_lt; omega⟩
                      obtain ⟨z, hz⟩ : ∃ z : Int, z = (((R[k]'hlt).toNat : Nat) : Int) := ⟨_, rfl⟩
                      rw [← hz] at HK2 hzr
                      have hzz : (((R[k]'hlt).toNat : Nat) : Int) = z := hz.symm
                      clear hz
                      have HRd : Hid (∀ V, Calls Tryd.prog 40 #[.int .u8 z] V fun e w' => e = .returned (.bool (digR z)) ∧ w' = V) := fun V => rDigit20_any z V
                      have HRl : Hid (∀ V, Calls Tryd.prog 41 #[.int .u8 z] V fun e w' => e = .returned (.bool (letR z)) ∧ w' = V) := fun V => rLetter20_any z V
                      cases h0 : letR z
                      · rw [h0] at HRl
                        cases h1 : digR z
                        · rw [h1] at HRd
                          by_cases h2 : z = 46
                          · subst h2
                            have HT : Hid (reD 46 = true) := by show _ = _; first | assumption | decide | (unfold reD; simp [h0, h1])
                            have HK3 : Hid (a3 = (R.data.toList.drop (k + 1)).all (fun b => reD b.toNat)) := by show _ = _; rw [HK2.out, HT.out]; rfl
                            clear HK2 HT
                            go_wp2_with (first | (go_at_call 41; refine (HRl.out _).mono ?_; rintro e w9 ⟨rfl, h9⟩; have h9s := h9.symm; clear h9; subst h9s) | (go_at_call 40; refine (HRd.out _).mono ?_; rintro e w9 ⟨rfl, h9⟩; have h9s := h9.symm; clear h9; subst h9s))
                            go_roundg (gk - 1)
                            case measure => have := HG.out; omega
                            case rel => exact ⟨k + 1, by have := HG.out; omega, by first | rfl | go_num, HK3.out, rfl⟩
                          · have b2 : (z != 46) = true := by simpa using h2
                            have d2 : (z == 46) = false := by simpa using h2
                            by_cases h3 : z = 43
                            · subst h3
                              have HT : Hid (reD 43 = true) := by show _ = _; first | assumption | decide | (unfold reD; simp [h0, h1, h2])
                              have HK3 : Hid (a3 = (R.data.toList.drop (k + 1)).all (fun b => reD b.toNat)) := by show _ = _; rw [HK2.out, HT.out]; rfl
                              clear HK2 HT
                              go_wp2_with (first | (go_at_call 41; refine (HRl.out _).mono ?_; rintro e w9 ⟨rfl, h9⟩; have h9s := h9.symm; clear h9; subst h9s) | (go_at_call 40; refine (HRd.out _).mono ?_; rintro e w9 ⟨rfl, h9⟩; have h9s := h9.symm; clear h9; subst h9s))
                              go_roundg (gk - 1)
                              case measure => have := HG.out; omega
                              case rel => exact ⟨k + 1, by have := HG.out; omega, by first | rfl | go_num, HK3.out, rfl⟩
                            · have b3 : (z != 43) = true := by simpa using h3
                              have d3 : (z == 43) = false := by simpa using h3
                              by_cases h4 : z = 126
                              · subst h4
                                have HT : Hid (reD 126 = true) := by show _ = _; first | assumption | decide | (unfold reD; simp [h0, h1, h2, h3])
                                have HK3 : Hid (a3 = (R.data.toList.drop (k + 1)).all (fun b => reD b.toNat)) := by show _ = _; rw [HK2.out, HT.out]; rfl
                                clear HK2 HT
                                go_wp2_with (first | (go_at_call 41; refine (HRl.out _).mono ?_; rintro e w9 ⟨rfl, h9⟩; have h9s := h9.symm; clear h9; subst h9s) | (go_at_call 40; refine (HRd.out _).mono ?_; rintro e w9 ⟨rfl, h9⟩; have h9s := h9.symm; clear h9; subst h9s))
                                go_roundg (gk - 1)
                                case measure => have := HG.out; omega
                                case rel => exact ⟨k + 1, by have := HG.out; omega, by first | rfl | go_num, HK3.out, rfl⟩
                              · have b4 : (z != 126) = true := by simpa using h4
                                have d4 : (z == 126) = false := by simpa using h4
                                have HF : Hid (reD z = false) := by show _ = _; first | assumption | decide | (unfold reD; simp [h0, h1, h2, h3, h4])
                                have HE : Hid (a3 = false) := by show _ = _; rw [HK2.out, HF.out]; rfl
                                clear HK2 HF
                                go_wp2_with (first | (go_at_call 41; refine (HRl.out _).mono ?_; rintro e w9 ⟨rfl, h9⟩; have h9s := h9.symm; clear h9; subst h9s) | (go_at_call 40; refine (HRd.out _).mono ?_; rintro e w9 ⟨rfl, h9⟩; have h9s := h9.symm; clear h9; subst h9s))
                                go_ret
                                exact ⟨ret_bool (by rw [HO3.out, HE.out]; try rfl), HB.out⟩
                        · rw [h1] at HRd
                          have HT : Hid (reD z = true) := by show _ = _; first | assumption | decide | (unfold reD; simp [h0, h1])
                          have HK3 : Hid (a3 = (R.data.toList.drop (k + 1)).all (fun b => reD b.toNat)) := by show _ = _; rw [HK2.out, HT.out]; rfl
                          clear HK2 HT
                          go_wp2_with (first | (go_at_call 41; refine (HRl.out _).mono ?_; rintro e w9 ⟨rfl, h9⟩; have h9s := h9.symm; clear h9; subst h9s) | (go_at_call 40; refine (HRd.out _).mono ?_; rintro e w9 ⟨rfl, h9⟩; have h9s := h9.symm; clear h9; subst h9s))
                          go_roundg (gk - 1)
                          case measure => have := HG.out; omega
                          case rel => exact ⟨k + 1, by have := HG.out; omega, by first | rfl | go_num, HK3.out, rfl⟩
                      · rw [h0] at HRl
                        have HT : Hid (reD z = true) := by show _ = _; first | assumption | decide | (unfold reD; simp [h0])
                        have HK3 : Hid (a3 = (R.data.toList.drop (k + 1)).all (fun b => reD b.toNat)) := by show _ = _; rw [HK2.out, HT.out]; rfl
                        clear HK2 HT
                        go_wp2_with (first | (go_at_call 41; refine (HRl.out _).mono ?_; rintro e w9 ⟨rfl, h9⟩; have h9s := h9.symm; clear h9; subst h9s) | (go_at_call 40; refine (HRd.out _).mono ?_; rintro e w9 ⟨rfl, h9⟩; have h9s := h9.symm; clear h9; subst h9s))
                        go_roundg (gk - 1)
                        case measure => have := HG.out; omega
                        case rel => exact ⟨k + 1, by have := HG.out; omega, by first | rfl | go_num, HK3.out, rfl⟩
                    · have HE : Hid (a3 = true) := by show _ = _; rw [HK.out, List.drop_eq_nil_of_le (by rw [HSz3.out]; omega)]; rfl
                      clear HK hk
                      go_wp2
                      go_ret
                      exact ⟨ret_bool (by rw [HO3.out, HE.out]), HB.out⟩
    · cases hR : R.toList.isEmpty
      · have hR2 := emp_cons hR
        cases hU : U.toList.isEmpty
        rotate_left
        · have hU2 := emp_nil hU
          go_wp2
          go_ret
          exact ⟨ret_bool (by rw [HOd.out]; simp [hU]), HB.out⟩
        · have hU2 := emp_cons hU
          have h0 : 0 < U.size := pos20 hU
          have HRd0 : Hid (∀ V, Calls Tryd.prog 40 #[.int .u8 (((U[0]'h0).toNat : Nat) : Int)] V fun e w' => e = .returned (.bool (digR ((U[0]'h0).toNat : Int))) ∧ w' = V) := fun V => rDigit20_any _ V
          have hh := h0_at U h0
          cases hd : digR ((U[0]'h0).toNat : Int)
          · rw [hd] at HRd0 hh
            go_wp2_with (go_at_call 40; refine (HRd0.out _).mono ?_; rintro e w9 ⟨rfl, h9⟩; have h9s := h9.symm; clear h9; subst h9s)
            go_ret
            exact ⟨ret_bool (by rw [HOd.out]; simp [hU, hh]), HB.out⟩
          · rw [hd] at HRd0 hh
            have HO1 : Hid (OK = (E.data.toList.all (fun b => digR b.toNat) && (U.data.toList.all (fun b => upD false b.toNat) && R.data.toList.all (fun b => reD b.toNat)))) := by show _ = _; rw [HOd.out]; simp [hU, hh, hR]
            clear HOd
            go_wp2_with (go_at_call 40; refine (HRd0.out _).mono ?_; rintro e w9 ⟨rfl, h9⟩; have h9s := h9.symm; clear h9; subst h9s)
            clear HRd0 hd hh
            have HA1 : Hid (E.data.toList.all (fun b => digR b.toNat) = (E.data.toList.drop 0).all (fun b => digR b.toNat)) := rfl
            have HSz1 : Hid (E.data.toList.length = E.size) := size20 E
            generalize hA1 : E.data.toList.all (fun b => digR b.toNat) = a1 at *
            clear hA1
            go_loopg [4] E.size (fun g i wr => ∃ k : Nat, k + g = E.size ∧ i = .int .i64 k ∧ Hid (a1 = (E.data.toList.drop k).all (fun b => digR b.toNat)) ∧ W = wr)
            case atStart => exact ⟨0, by omega, rfl, HA1.out, rfl⟩
            case round =>
              obtain ⟨k, hk, rfl, HK, hwr⟩ := hrel
              subst hwr
              have HG : Hid (k + gk = E.size) := hk
              by_cases hlt : k < E.size
              · have HD : Hid (E.data.toList.drop k = E[k] :: E.data.toList.drop (k + 1)) := drop20 hlt
                have HK2 : Hid (a1 = (digR (E[k]'hlt).toNat && (E.data.toList.drop (k + 1)).all (fun b => digR b.toNat))) := by show _ = _; rw [HK.out, HD.out, List.all_cons]
                clear hk HK HD
                have hzr : 0 ≤ (((E[k]'hlt).toNat : Nat) : Int) ∧ (((E[k]'hlt).toNat : Nat) : Int) < 256 := ⟨by omega, by have := (E[k]'hlt).toNat_lt; omega⟩
                obtain ⟨z, hz⟩ : ∃ z : Int, z = (((E[k]'hlt).toNat : Nat) : Int) := ⟨_, rfl⟩
                rw [← hz] at HK2 hzr
                have hzz : (((E[k]'hlt).toNat : Nat) : Int) = z := hz.symm
                clear hz
                have HRd : Hid (∀ V, Calls Tryd.prog 40 #[.int .u8 z] V fun e w' => e = .returned (.bool (digR z)) ∧ w' = V) := fun V => rDigit20_any z V
                have HRl : Hid (∀ V, Calls Tryd.prog 41 #[.int .u8 z] V fun e w' => e = .returned (.bool (letR z)) ∧ w' = V) := fun V => rLetter20_any z V
                cases h0 : digR z
                · rw [h0] at HRd
                  have HF : Hid (digR z = false) := by show _ = _; first | assumption | decide | (unfold digR; simp [h0])
                  have HE : Hid (a1 = false) := by show _ = _; rw [HK2.out, HF.out]; rfl
                  clear HK2 HF
                  go_wp2_with (first | (go_at_call 41; refine (HRl.out _).mono ?_; rintro e w9 ⟨rfl, h9⟩; have h9s := h9.symm; clear h9; subst h9s) | (go_at_call 40; refine (HRd.out _).mono ?_; rintro e w9 ⟨rfl, h9⟩; have h9s := h9.symm; clear h9; subst h9s))
                  go_ret
                  exact ⟨ret_bool (by rw [HO1.out, HE.out]; try rfl), HB.out⟩
                · rw [h0] at HRd
                  have HT : Hid (digR z = true) := by show _ = _; first | assumption | decide | (unfold digR; simp [h0])
                  have HK3 : Hid (a1 = (E.data.toList.drop (k + 1)).all (fun b => digR b.toNat)) := by show _ = _; rw [HK2.out, HT.out]; rfl
                  clear HK2 HT
                  go_wp2_with (first | (go_at_call 41; refine (HRl.out _).mono ?_; rintro e w9 ⟨rfl, h9⟩; have h9s := h9.symm; clear h9; subst h9s) | (go_at_call 40; refine (HRd.out _).mono ?_; rintro e w9 ⟨rfl, h9⟩; have h9s := h9.symm; clear h9; subst h9s))
                  go_roundg (gk - 1)
                  case measure => have := HG.out; omega
                  case rel => exact ⟨k + 1, by have := HG.out; omega, by first | rfl | go_num, HK3.out, rfl⟩
              · have HE : Hid (a1 = true) := by show _ = _; rw [HK.out, List.drop_eq_nil_of_le (by rw [HSz1.out]; omega)]; rfl
                clear HK hk
                have HO2 : Hid (OK = (U.data.toList.all (fun b => upD false b.toNat) && R.data.toList.all (fun b => reD b.toNat))) := by show _ = _; rw [HO1.out, HE.out]; rfl
                clear HO1 HE HA1 HSz1
                go_wp2_with fail
                have HA2 : Hid (U.data.toList.all (fun b => upD false b.toNat) = (U.data.toList.drop 0).all (fun b => upD false b.toNat)) := rfl
                have HSz2 : Hid (U.data.toList.length = U.size) := size20 U
                generalize hA2 : U.data.toList.all (fun b => upD false b.toNat) = a2 at *
                clear hA2
                go_loopg [5, 6] U.size (fun g i j0 wr => ∃ k : Nat, k + g = U.size ∧ i = .int .i64 k ∧ Hid (a2 = (U.data.toList.drop k).all (fun b => upD false b.toNat)) ∧ W = wr)
                case atStart => exact ⟨0, by omega, rfl, HA2.out, rfl⟩
                case round =>
                  obtain ⟨k, hk, rfl, HK, hwr⟩ := hrel
                  subst hwr
                  have HG : Hid (k + gk = U.size) := hk
                  by_cases hlt : k < U.size
                  · have HD : Hid (U.data.toList.drop k = U[k] :: U.data.toList.drop (k + 1)) := drop20 hlt
                    have HK2 : Hid (a2 = (upD false (U[k]'hlt).toNat && (U.data.toList.drop (k + 1)).all (fun b => upD false b.toNat))) := by show _ = _; rw [HK.out, HD.out, List.all_cons]
                    clear hk HK HD
                    have hzr : 0 ≤ (((U[k]'hlt).toNat : Nat) : Int) ∧ (((U[k]'hlt).toNat : Nat) : Int) < 256 := ⟨by omega, by have := (U[k]'hlt).toNat_lt; omega⟩
                    obtain ⟨z, hz⟩ : ∃ z : Int, z = (((U[k]'hlt).toNat : Nat) : Int) := ⟨_, rfl⟩
                    rw [← hz] at HK2 hzr
                    have hzz : (((U[k]'hlt).toNat : Nat) : Int) = z := hz.symm
                    clear hz
                    have HRd : Hid (∀ V, Calls Tryd.prog 40 #[.int .u8 z] V fun e w' => e = .returned (.bool (digR z)) ∧ w' = V) := fun V => rDigit20_any z V
                    have HRl : Hid (∀ V, Calls Tryd.prog 41 #[.int .u8 z] V fun e w' => e = .returned (.bool (letR z)) ∧ w' = V) := fun V => rLetter20_any z V
                    cases h0 : letR z
                    · rw [h0] at HRl
                      cases h1 : digR z
                      · rw [h1] at HRd
                        by_cases h2 : z = 46
                        · subst h2
                          have HT : Hid (upD false 46 = true) := by show _ = _; first | assumption | decide | (unfold upD; simp [h0, h1])
                          have HK3 : Hid (a2 = (U.data.toList.drop (k + 1)).all (fun b => upD false b.toNat)) := by show _ = _; rw [HK2.out, HT.out]; rfl
                          clear HK2 HT
                          go_wp2_with (first | (go_at_call 41; refine (HRl.out _).mono ?_; rintro e w9 ⟨rfl, h9⟩; have h9s := h9.symm; clear h9; subst h9s) | (go_at_call 40; refine (HRd.out _).mono ?_; rintro e w9 ⟨rfl, h9⟩; have h9s := h9.symm; clear h9; subst h9s))
                          go_roundg (gk - 1)
                          case measure => have := HG.out; omega
                          case rel => exact ⟨k + 1, by have := HG.out; omega, by first | rfl | go_num, HK3.out, rfl⟩
                        · have b2 : (z != 46) = true := by simpa using h2
                          have d2 : (z == 46) = false := by simpa using h2
                          by_cases h3 : z = 43
                          · subst h3
                            have HT : Hid (upD false 43 = true) := by show _ = _; first | assumption | decide | (unfold upD; simp [h0, h1, h2])
                            have HK3 : Hid (a2 = (U.data.toList.drop (k + 1)).all (fun b => upD false b.toNat)) := by show _ = _; rw [HK2.out, HT.out]; rfl
                            clear HK2 HT
                            go_wp2_with (first | (go_at_call 41; refine (HRl.out _).mono ?_; rintro e w9 ⟨rfl, h9⟩; have h9s := h9.symm; clear h9; subst h9s) | (go_at_call 40; refine (HRd.out _).mono ?_; rintro e w9 ⟨rfl, h9⟩; have h9s := h9.symm; clear h9; subst h9s))
                            go_roundg (gk - 1)
                            case measure => have := HG.out; omega
                            case rel => exact ⟨k + 1, by have := HG.out; omega, by first | rfl | go_num, HK3.out, rfl⟩
                          · have b3 : (z != 43) = true := by simpa using h3
                            have d3 : (z == 43) = false := by simpa using h3
                            by_cases h4 : z = 45
                            · subst h4
                              have HT : Hid (upD false 45 = true) := by show _ = _; first | assumption | decide | (unfold upD; simp [h0, h1, h2, h3])
                              have HK3 : Hid (a2 = (U.data.toList.drop (k + 1)).all (fun b => upD false b.toNat)) := by show _ = _; rw [HK2.out, HT.out]; rfl
                              clear HK2 HT
                              go_wp2_with (first | (go_at_call 41; refine (HRl.out _).mono ?_; rintro e w9 ⟨rfl, h9⟩; have h9s := h9.symm; clear h9; subst h9s) | (go_at_call 40; refine (HRd.out _).mono ?_; rintro e w9 ⟨rfl, h9⟩; have h9s := h9.symm; clear h9; subst h9s))
                              go_roundg (gk - 1)
                              case measure => have := HG.out; omega
                              case rel => exact ⟨k + 1, by have := HG.out; omega, by first | rfl | go_num, HK3.out, rfl⟩
                            · have b4 : (z != 45) = true := by simpa using h4
                              have d4 : (z == 45) = false := by simpa using h4
                              by_cases h5 : z = 126
                              · subst h5
                                have HT : Hid (upD false 126 = true) := by show _ = _; first | assumption | decide | (unfold upD; simp [h0, h1, h2, h3, h4])
                                have HK3 : Hid (a2 = (U.data.toList.drop (k + 1)).all (fun b => upD false b.toNat)) := by show _ = _; rw [HK2.out, HT.out]; rfl
                                clear HK2 HT
                                go_wp2_with (first | (go_at_call 41; refine (HRl.out _).mono ?_; rintro e w9 ⟨rfl, h9⟩; have h9s := h9.symm; clear h9; subst h9s) | (go_at_call 40; refine (HRd.out _).mono ?_; rintro e w9 ⟨rfl, h9⟩; have h9s := h9.symm; clear h9; subst h9s))
                                go_roundg (gk - 1)
                                case measure => have := HG.out; omega
                                case rel => exact ⟨k + 1, by have := HG.out; omega, by first | rfl | go_num, HK3.out, rfl⟩
                              · have b5 : (z != 126) = true := by simpa using h5
                                have d5 : (z == 126) = false := by simpa using h5
                                by_cases hx : z = 58
                                · subst hx
                                  have HF : Hid (upD false 58 = false) := by show _ = _; first | assumption | decide | (unfold upD; simp [h0, h1, h2, h3, h4, h5])
                                  have HE : Hid (a2 = false) := by show _ = _; rw [HK2.out, HF.out]; rfl
                                  clear HK2 HF
                                  go_wp2_with (first | (go_at_call 41; refine (HRl.out _).mono ?_; rintro e w9 ⟨rfl, h9⟩; have h9s := h9.symm; clear h9; subst h9s) | (go_at_call 40; refine (HRd.out _).mono ?_; rintro e w9 ⟨rfl, h9⟩; have h9s := h9.symm; clear h9; subst h9s))
                                  go_ret
                                  exact ⟨ret_bool (by rw [HO2.out, HE.out]; try rfl), HB.out⟩
                                · have hy : (z == 58) = false := by simpa using hx
                                  have HF : Hid (upD false z = false) := by show _ = _; first | assumption | decide | (unfold upD; simp [h0, h1, h2, h3, h4, h5])
                                  have HE : Hid (a2 = false) := by show _ = _; rw [HK2.out, HF.out]; rfl
                                  clear HK2 HF
                                  go_wp2_with (first | (go_at_call 41; refine (HRl.out _).mono ?_; rintro e w9 ⟨rfl, h9⟩; have h9s := h9.symm; clear h9; subst h9s) | (go_at_call 40; refine (HRd.out _).mono ?_; rintro e w9 ⟨rfl, h9⟩; have h9s := h9.symm; clear h9; subst h9s))
                                  go_ret
                                  exact ⟨ret_bool (by rw [HO2.out, HE.out]; try rfl), HB.out⟩
                      · rw [h1] at HRd
                        have HT : Hid (upD false z = true) := by show _ = _; first | assumption | decide | (unfold upD; simp [h0, h1])
                        have HK3 : Hid (a2 = (U.data.toList.drop (k + 1)).all (fun b => upD false b.toNat)) := by show _ = _; rw [HK2.out, HT.out]; rfl
                        clear HK2 HT
                        go_wp2_with (first | (go_at_call 41; refine (HRl.out _).mono ?_; rintro e w9 ⟨rfl, h9⟩; have h9s := h9.symm; clear h9; subst h9s) | (go_at_call 40; refine (HRd.out _).mono ?_; rintro e w9 ⟨rfl, h9⟩; have h9s := h9.symm; clear h9; subst h9s))
                        go_roundg (gk - 1)
                        case measure => have := HG.out; omega
                        case rel => exact ⟨k + 1, by have := HG.out; omega, by first | rfl | go_num, HK3.out, rfl⟩
                    · rw [h0] at HRl
                      have HT : Hid (upD false z = true) := by show _ = _; first | assumption | decide | (unfold upD; simp [h0])
                      have HK3 : Hid (a2 = (U.data.toList.drop (k + 1)).all (fun b => upD false b.toNat)) := by show _ = _; rw [HK2.out, HT.out]; rfl
                      clear HK2 HT
                      go_wp2_with (first | (go_at_call 41; refine (HRl.out _).mono ?_; rintro e w9 ⟨rfl, h9⟩; have h9s := h9.symm; clear h9; subst h9s) | (go_at_call 40; refine (HRd.out _).mono ?_; rintro e w9 ⟨rfl, h9⟩; have h9s := h9.symm; clear h9; subst h9s))
                      go_roundg (gk - 1)
                      case measure => have := HG.out; omega
                      case rel => exact ⟨k + 1, by have := HG.out; omega, by first | rfl | go_num, HK3.out, rfl⟩
                  · have HE : Hid (a2 = true) := by show _ = _; rw [HK.out, List.drop_eq_nil_of_le (by rw [HSz2.out]; omega)]; rfl
                    clear HK hk
                    have HO3 : Hid (OK = R.data.toList.all (fun b => reD b.toNat)) := by show _ = _; rw [HO2.out, HE.out]; rfl
                    clear HO2 HE HA2 HSz2
                    go_wp2_with fail
                    have HA3 : Hid (R.data.toList.all (fun b => reD b.toNat) = (R.data.toList.drop 0).all (fun b => reD b.toNat)) := rfl
                    have HSz3 : Hid (R.data.toList.length = R.size) := size20 R
                    generalize hA3 : R.data.toList.all (fun b => reD b.toNat) = a3 at *
                    clear hA3
                    go_loopg [7, 8] R.size (fun g i j0 wr => ∃ k : Nat, k + g = R.size ∧ i = .int .i64 k ∧ Hid (a3 = (R.data.toList.drop k).all (fun b => reD b.toNat)) ∧ W = wr)
                    case atStart => exact ⟨0, by omega, rfl, HA3.out, rfl⟩
                    case round =>
                      obtain ⟨k, hk, rfl, HK, hwr⟩ := hrel
                      subst hwr
                      have HG : Hid (k + gk = R.size) := hk
                      by_cases hlt : k < R.size
                      · have HD : Hid (R.data.toList.drop k = R[k] :: R.data.toList.drop (k + 1)) := drop20 hlt
                        have HK2 : Hid (a3 = (reD (R[k]'hlt).toNat && (R.data.toList.drop (k + 1)).all (fun b => reD b.toNat))) := by show _ = _; rw [HK.out, HD.out, List.all_cons]
                        clear hk HK HD
                        have hzr : 0 ≤ (((R[k]'hlt).toNat : Nat) : Int) ∧ (((R[k]'hlt).toNat : Nat) : Int) < 256 := ⟨by omega, by have := (R[k]'hlt).toNat_lt; omega⟩
                        obtain ⟨z, hz⟩ : ∃ z : Int, z = (((R[k]'hlt).toNat : Nat) : Int) := ⟨_, rfl⟩
                        rw [← hz] at HK2 hzr
                        have hzz : (((R[k]'hlt).toNat : Nat) : Int) = z := hz.symm
                        clear hz
                        have HRd : Hid (∀ V, Calls Tryd.prog 40 #[.int .u8 z] V fun e w' => e = .returned (.bool (digR z)) ∧ w' = V) := fun V => rDigit20_any z V
                        have HRl : Hid (∀ V, Calls Tryd.prog 41 #[.int .u8 z] V fun e w' => e = .returned (.bool (letR z)) ∧ w' = V) := fun V => rLetter20_any z V
                        cases h0 : letR z
                        · rw [h0] at HRl
                          cases h1 : digR z
                          · rw [h1] at HRd
                            by_cases h2 : z = 46
                            · subst h2
                              have HT : Hid (reD 46 = true) := by show _ = _; first | assumption | decide | (unfold reD; simp [h0, h1])
                              have HK3 : Hid (a3 = (R.data.toList.drop (k + 1)).all (fun b => reD b.toNat)) := by show _ = _; rw [HK2.out, HT.out]; rfl
                              clear HK2 HT
                              go_wp2_with (first | (go_at_call 41; refine (HRl.out _).mono ?_; rintro e w9 ⟨rfl, h9⟩; have h9s := h9.symm; clear h9; subst h9s) | (go_at_call 40; refine (HRd.out _).mono ?_; rintro e w9 ⟨rfl, h9⟩; have h9s := h9.symm; clear h9; subst h9s))
                              go_roundg (gk - 1)
                              case measure => have := HG.out; omega
                              case rel => exact ⟨k + 1, by have := HG.out; omega, by first | rfl | go_num, HK3.out, rfl⟩
                            · have b2 : (z != 46) = true := by simpa using h2
                              have d2 : (z == 46) = false := by simpa using h2
                              by_cases h3 : z = 43
                              · subst h3
                                have HT : Hid (reD 43 = true) := by show _ = _; first | assumption | decide | (unfold reD; simp [h0, h1, h2])
                                have HK3 : Hid (a3 = (R.data.toList.drop (k + 1)).all (fun b => reD b.toNat)) := by show _ = _; rw [HK2.out, HT.out]; rfl
                                clear HK2 HT
                                go_wp2_with (first | (go_at_call 41; refine (HRl.out _).mono ?_; rintro e w9 ⟨rfl, h9⟩; have h9s := h9.symm; clear h9; subst h9s) | (go_at_call 40; refine (HRd.out _).mono ?_; rintro e w9 ⟨rfl, h9⟩; have h9s := h9.symm; clear h9; subst h9s))
                                go_roundg (gk - 1)
                                case measure => have := HG.out; omega
                                case rel => exact ⟨k + 1, by have := HG.out; omega, by first | rfl | go_num, HK3.out, rfl⟩
                              · have b3 : (z != 43) = true := by simpa using h3
                                have d3 : (z == 43) = false := by simpa using h3
                                by_cases h4 : z = 126
                                · subst h4
                                  have HT : Hid (reD 126 = true) := by show _ = _; first | assumption | decide | (unfold reD; simp [h0, h1, h2, h3])
                                  have HK3 : Hid (a3 = (R.data.toList.drop (k + 1)).all (fun b => reD b.toNat)) := by show _ = _; rw [HK2.out, HT.out]; rfl
                                  clear HK2 HT
                                  go_wp2_with (first | (go_at_call 41; refine (HRl.out _).mono ?_; rintro e w9 ⟨rfl, h9⟩; have h9s := h9.symm; clear h9; subst h9s) | (go_at_call 40; refine (HRd.out _).mono ?_; rintro e w9 ⟨rfl, h9⟩; have h9s := h9.symm; clear h9; subst h9s))
                                  go_roundg (gk - 1)
                                  case measure => have := HG.out; omega
                                  case rel => exact ⟨k + 1, by have := HG.out; omega, by first | rfl | go_num, HK3.out, rfl⟩
                                · have b4 : (z != 126) = true := by simpa using h4
                                  have d4 : (z == 126) = false := by simpa using h4
                                  have HF : Hid (reD z = false) := by show _ = _; first | assumption | decide | (unfold reD; simp [h0, h1, h2, h3, h4])
                                  have HE : Hid (a3 = false) := by show _ = _; rw [HK2.out, HF.out]; rfl
                                  clear HK2 HF
                                  go_wp2_with (first | (go_at_call 41; refine (HRl.out _).mono ?_; rintro e w9 ⟨rfl, h9⟩; have h9s := h9.symm; clear h9; subst h9s) | (go_at_call 40; refine (HRd.out _).mono ?_; rintro e w9 ⟨rfl, h9⟩; have h9s := h9.symm; clear h9; subst h9s))
                                  go_ret
                                  exact ⟨ret_bool (by rw [HO3.out, HE.out]; try rfl), HB.out⟩
                          · rw [h1] at HRd
                            have HT : Hid (reD z = true) := by show _ = _; first | assumption | decide | (unfold reD; simp [h0, h1])
                            have HK3 : Hid (a3 = (R.data.toList.drop (k + 1)).all (fun b => reD b.toNat)) := by show _ = _; rw [HK2.out, HT.out]; rfl
                            clear HK2 HT
                            go_wp2_with (first | (go_at_call 41; refine (HRl.out _).mono ?_; rintro e w9 ⟨rfl, h9⟩; have h9s := h9.symm; clear h9; subst h9s) | (go_at_call 40; refine (HRd.out _).mono ?_; rintro e w9 ⟨rfl, h9⟩; have h9s := h9.symm; clear h9; subst h9s))
                            go_roundg (gk - 1)
                            case measure => have := HG.out; omega
                            case rel => exact ⟨k + 1, by have := HG.out; omega, by first | rfl | go_num, HK3.out, rfl⟩
                        · rw [h0] at HRl
                          have HT : Hid (reD z = true) := by show _ = _; first | assumption | decide | (unfold reD; simp [h0])
                          have HK3 : Hid (a3 = (R.data.toList.drop (k + 1)).all (fun b => reD b.toNat)) := by show _ = _; rw [HK2.out, HT.out]; rfl
                          clear HK2 HT
                          go_wp2_with (first | (go_at_call 41; refine (HRl.out _).mono ?_; rintro e w9 ⟨rfl, h9⟩; have h9s := h9.symm; clear h9; subst h9s) | (go_at_call 40; refine (HRd.out _).mono ?_; rintro e w9 ⟨rfl, h9⟩; have h9s := h9.symm; clear h9; subst h9s))
                          go_roundg (gk - 1)
                          case measure => have := HG.out; omega
                          case rel => exact ⟨k + 1, by have := HG.out; omega, by first | rfl | go_num, HK3.out, rfl⟩
                      · have HE : Hid (a3 = true) := by show _ = _; rw [HK.out, List.drop_eq_nil_of_le (by rw [HSz3.out]; omega)]; rfl
                        clear HK hk
                        go_wp2
                        go_ret
                        exact ⟨ret_bool (by rw [HO3.out, HE.out]), HB.out⟩
      · have hR2 := emp_nil hR
        go_wp2
        go_ret
        exact ⟨ret_bool (by rw [HOd.out]; simp [hR]), HB.out⟩
  · cases hE : E.toList.isEmpty
    · have hE2 := emp_cons hE
      cases M
      · cases hU : U.toList.isEmpty
        rotate_left
        · have hU2 := emp_nil hU
          go_wp2
          go_ret
          exact ⟨ret_bool (by rw [HOd.out]; simp [hU]), HB.out⟩
        · have hU2 := emp_cons hU
          have h0 : 0 < U.size := pos20 hU
          have HRd0 : Hid (∀ V, Calls Tryd.prog 40 #[.int .u8 (((U[0]'h0).toNat : Nat) : Int)] V fun e w' => e = .returned (.bool (digR ((U[0]'h0).toNat : Int))) ∧ w' = V) := fun V => rDigit20_any _ V
          have hh := h0_at U h0
          cases hd : digR ((U[0]'h0).toNat : Int)
          · rw [hd] at HRd0 hh
            go_wp2_with (go_at_call 40; refine (HRd0.out _).mono ?_; rintro e w9 ⟨rfl, h9⟩; have h9s := h9.symm; clear h9; subst h9s)
            go_ret
            exact ⟨ret_bool (by rw [HOd.out]; simp [hU, hh]), HB.out⟩
          · rw [hd] at HRd0 hh
            have HO1 : Hid (OK = (E.data.toList.all (fun b => digR b.toNat) && (U.data.toList.all (fun b => upD true b.toNat) && R.data.toList.all (fun b => reD b.toNat)))) := by show _ = _; rw [HOd.out]; simp [hU, hh, hE]
            clear HOd
            go_wp2_with (go_at_call 40; refine (HRd0.out _).mono ?_; rintro e w9 ⟨rfl, h9⟩; have h9s := h9.symm; clear h9; subst h9s)
            clear HRd0 hd hh
            have HA1 : Hid (E.data.toList.all (fun b => digR b.toNat) = (E.data.toList.drop 0).all (fun b => digR b.toNat)) := rfl
            have HSz1 : Hid (E.data.toList.length = E.size) := size20 E
            generalize hA1 : E.data.toList.all (fun b => digR b.toNat) = a1 at *
            clear hA1
            go_loopg [4] E.size (fun g i wr => ∃ k : Nat, k + g = E.size ∧ i = .int .i64 k ∧ Hid (a1 = (E.data.toList.drop k).all (fun b => digR b.toNat)) ∧ W = wr)
            case atStart => exact ⟨0, by omega, rfl, HA1.out, rfl⟩
            case round =>
              obtain ⟨k, hk, rfl, HK, hwr⟩ := hrel
              subst hwr
              have HG : Hid (k + gk = E.size) := hk
              by_cases hlt : k < E.size
              · have HD : Hid (E.data.toList.drop k = E[k] :: E.data.toList.drop (k + 1)) := drop20 hlt
                have HK2 : Hid (a1 = (digR (E[k]'hlt).toNat && (E.data.toList.drop (k + 1)).all (fun b => digR b.toNat))) := by show _ = _; rw [HK.out, HD.out, List.all_cons]
                clear hk HK HD
                have hzr : 0 ≤ (((E[k]'hlt).toNat : Nat) : Int) ∧ (((E[k]'hlt).toNat : Nat) : Int) < 256 := ⟨by omega, by have := (E[k]'hlt).toNat_lt; omega⟩
                obtain ⟨z, hz⟩ : ∃ z : Int, z = (((E[k]'hlt).toNat : Nat) : Int) := ⟨_, rfl⟩
                rw [← hz] at HK2 hzr
                have hzz : (((E[k]'hlt).toNat : Nat) : Int) = z := hz.symm
                clear hz
                have HRd : Hid (∀ V, Calls Tryd.prog 40 #[.int .u8 z] V fun e w' => e = .returned (.bool (digR z)) ∧ w' = V) := fun V => rDigit20_any z V
                have HRl : Hid (∀ V, Calls Tryd.prog 41 #[.int .u8 z] V fun e w' => e = .returned (.bool (letR z)) ∧ w' = V) := fun V => rLetter20_any z V
                cases h0 : digR z
                · rw [h0] at HRd
                  have HF : Hid (digR z = false) := by show _ = _; first | assumption | decide | (unfold digR; simp [h0])
                  have HE : Hid (a1 = false) := by show _ = _; rw [HK2.out, HF.out]; rfl
                  clear HK2 HF
                  go_wp2_with (first | (go_at_call 41; refine (HRl.out _).mono ?_; rintro e w9 ⟨rfl, h9⟩; have h9s := h9.symm; clear h9; subst h9s) | (go_at_call 40; refine (HRd.out _).mono ?_; rintro e w9 ⟨rfl, h9⟩; have h9s := h9.symm; clear h9; subst h9s))
                  go_ret
                  exact ⟨ret_bool (by rw [HO1.out, HE.out]; try rfl), HB.out⟩
                · rw [h0] at HRd
                  have HT : Hid (digR z = true) := by show _ = _; first | assumption | decide | (unfold digR; simp [h0])
                  have HK3 : Hid (a1 = (E.data.toList.drop (k + 1)).all (fun b => digR b.toNat)) := by show _ = _; rw [HK2.out, HT.out]; rfl
                  clear HK2 HT
                  go_wp2_with (first | (go_at_call 41; refine (HRl.out _).mono ?_; rintro e w9 ⟨rfl, h9⟩; have h9s := h9.symm; clear h9; subst h9s) | (go_at_call 40; refine (HRd.out _).mono ?_; rintro e w9 ⟨rfl, h9⟩; have h9s := h9.symm; clear h9; subst h9s))
                  go_roundg (gk - 1)
                  case measure => have := HG.out; omega
                  case rel => exact ⟨k + 1, by have := HG.out; omega, by first | rfl | go_num, HK3.out, rfl⟩
              · have HE : Hid (a1 = true) := by show _ = _; rw [HK.out, List.drop_eq_nil_of_le (by rw [HSz1.out]; omega)]; rfl
                clear HK hk
                have HO2 : Hid (OK = (U.data.toList.all (fun b => upD true b.toNat) && R.data.toList.all (fun b => reD b.toNat))) := by show _ = _; rw [HO1.out, HE.out]; rfl
                clear HO1 HE HA1 HSz1
                go_wp2_with fail
                have HA2 : Hid (U.data.toList.all (fun b => upD true b.toNat) = (U.data.toList.drop 0).all (fun b => upD true b.toNat)) := rfl
                have HSz2 : Hid (U.data.toList.length = U.size) := size20 U
                generalize hA2 : U.data.toList.all (fun b => upD true b.toNat) = a2 at *
                clear hA2
                go_loopg [5, 6] U.size (fun g i j0 wr => ∃ k : Nat, k + g = U.size ∧ i = .int .i64 k ∧ Hid (a2 = (U.data.toList.drop k).all (fun b => upD true b.toNat)) ∧ W = wr)
                case atStart => exact ⟨0, by omega, rfl, HA2.out, rfl⟩
                case round =>
                  obtain ⟨k, hk, rfl, HK, hwr⟩ := hrel
                  subst hwr
                  have HG : Hid (k + gk = U.size) := hk
                  by_cases hlt : k < U.size
                  · have HD : Hid (U.data.toList.drop k = U[k] :: U.data.toList.drop (k + 1)) := drop20 hlt
                    have HK2 : Hid (a2 = (upD true (U[k]'hlt).toNat && (U.data.toList.drop (k + 1)).all (fun b => upD true b.toNat))) := by show _ = _; rw [HK.out, HD.out, List.all_cons]
                    clear hk HK HD
                    have hzr : 0 ≤ (((U[k]'hlt).toNat : Nat) : Int) ∧ (((U[k]'hlt).toNat : Nat) : Int) < 256 := ⟨by omega, by have := (U[k]'hlt).toNat_lt; omega⟩
                    obtain ⟨z, hz⟩ : ∃ z : Int, z = (((U[k]'hlt).toNat : Nat) : Int) := ⟨_, rfl⟩
                    rw [← hz] at HK2 hzr
                    have hzz : (((U[k]'hlt).toNat : Nat) : Int) = z := hz.symm
                    clear hz
                    have HRd : Hid (∀ V, Calls Tryd.prog 40 #[.int .u8 z] V fun e w' => e = .returned (.bool (digR z)) ∧ w' = V) := fun V => rDigit20_any z V
                    have HRl : Hid (∀ V, Calls Tryd.prog 41 #[.int .u8 z] V fun e w' => e = .returned (.bool (letR z)) ∧ w' = V) := fun V => rLetter20_any z V
                    cases h0 : letR z
                    · rw [h0] at HRl
                      cases h1 : digR z
                      · rw [h1] at HRd
                        by_cases h2 : z = 46
                        · subst h2
                          have HT : Hid (upD true 46 = true) := by show _ = _; first | assumption | decide | (unfold upD; simp [h0, h1])
                          have HK3 : Hid (a2 = (U.data.toList.drop (k + 1)).all (fun b => upD true b.toNat)) := by show _ = _; rw [HK2.out, HT.out]; rfl
                          clear HK2 HT
                          go_wp2_with (first | (go_at_call 41; refine (HRl.out _).mono ?_; rintro e w9 ⟨rfl, h9⟩; have h9s := h9.symm; clear h9; subst h9s) | (go_at_call 40; refine (HRd.out _).mono ?_; rintro e w9 ⟨rfl, h9⟩; have h9s := h9.symm; clear h9; subst h9s))
                          go_roundg (gk - 1)
                          case measure => have := HG.out; omega
                          case rel => exact ⟨k + 1, by have := HG.out; omega, by first | rfl | go_num, HK3.out, rfl⟩
                        · have b2 : (z != 46) = true := by simpa using h2
                          have d2 : (z == 46) = false := by simpa using h2
                          by_cases h3 : z = 43
                          · subst h3
                            have HT : Hid (upD true 43 = true) := by show _ = _; first | assumption | decide | (unfold upD; simp [h0, h1, h2])
                            have HK3 : Hid (a2 = (U.data.toList.drop (k + 1)).all (fun b => upD true b.toNat)) := by show _ = _; rw [HK2.out, HT.out]; rfl
                            clear HK2 HT
                            go_wp2_with (first | (go_at_call 41; refine (HRl.out _).mono ?_; rintro e w9 ⟨rfl, h9⟩; have h9s := h9.symm; clear h9; subst h9s) | (go_at_call 40; refine (HRd.out _).mono ?_; rintro e w9 ⟨rfl, h9⟩; have h9s := h9.symm; clear h9; subst h9s))
                            go_roundg (gk - 1)
                            case measure => have := HG.out; omega
                            case rel => exact ⟨k + 1, by have := HG.out; omega, by first | rfl | go_num, HK3.out, rfl⟩
                          · have b3 : (z != 43) = true := by simpa using h3
                            have d3 : (z == 43) = false := by simpa using h3
                            by_cases h4 : z = 45
                            · subst h4
                              have HT : Hid (upD true 45 = true) := by show _ = _; first | assumption | decide | (unfold upD; simp [h0, h1, h2, h3])
                              have HK3 : Hid (a2 = (U.data.toList.drop (k + 1)).all (fun b => upD true b.toNat)) := by show _ = _; rw [HK2.out, HT.out]; rfl
                              clear HK2 HT
                              go_wp2_with (first | (go_at_call 41; refine (HRl.out _).mono ?_; rintro e w9 ⟨rfl, h9⟩; have h9s := h9.symm; clear h9; subst h9s) | (go_at_call 40; refine (HRd.out _).mono ?_; rintro e w9 ⟨rfl, h9⟩; have h9s := h9.symm; clear h9; subst h9s))
                              go_roundg (gk - 1)
                              case measure => have := HG.out; omega
                              case rel => exact ⟨k + 1, by have := HG.out; omega, by first | rfl | go_num, HK3.out, rfl⟩
                            · have b4 : (z != 45) = true := by simpa using h4
                              have d4 : (z == 45) = false := by simpa using h4
                              by_cases h5 : z = 126
                              · subst h5
                                have HT : Hid (upD true 126 = true) := by show _ = _; first | assumption | decide | (unfold upD; simp [h0, h1, h2, h3, h4])
                                have HK3 : Hid (a2 = (U.data.toList.drop (k + 1)).all (fun b => upD true b.toNat)) := by show _ = _; rw [HK2.out, HT.out]; rfl
                                clear HK2 HT
                                go_wp2_with (first | (go_at_call 41; refine (HRl.out _).mono ?_; rintro e w9 ⟨rfl, h9⟩; have h9s := h9.symm; clear h9; subst h9s) | (go_at_call 40; refine (HRd.out _).mono ?_; rintro e w9 ⟨rfl, h9⟩; have h9s := h9.symm; clear h9; subst h9s))
                                go_roundg (gk - 1)
                                case measure => have := HG.out; omega
                                case rel => exact ⟨k + 1, by have := HG.out; omega, by first | rfl | go_num, HK3.out, rfl⟩
                              · have b5 : (z != 126) = true := by simpa using h5
                                have d5 : (z == 126) = false := by simpa using h5
                                by_cases h6 : z = 58
                                · subst h6
                                  have HT : Hid (upD true 58 = true) := by show _ = _; first | assumption | decide | (unfold upD; simp [h0, h1, h2, h3, h4, h5])
                                  have HK3 : Hid (a2 = (U.data.toList.drop (k + 1)).all (fun b => upD true b.toNat)) := by show _ = _; rw [HK2.out, HT.out]; rfl
                                  clear HK2 HT
                                  go_wp2_with (first | (go_at_call 41; refine (HRl.out _).mono ?_; rintro e w9 ⟨rfl, h9⟩; have h9s := h9.symm; clear h9; subst h9s) | (go_at_call 40; refine (HRd.out _).mono ?_; rintro e w9 ⟨rfl, h9⟩; have h9s := h9.symm; clear h9; subst h9s))
                                  go_roundg (gk - 1)
                                  case measure => have := HG.out; omega
                                  case rel => exact ⟨k + 1, by have := HG.out; omega, by first | rfl | go_num, HK3.out, rfl⟩
                                · have b6 : (z != 58) = true := by simpa using h6
                                  have d6 : (z == 58) = false := by simpa using h6
                                  have HF : Hid (upD true z = false) := by show _ = _; first | assumption | decide | (unfold upD; simp [h0, h1, h2, h3, h4, h5, h6])
                                  have HE : Hid (a2 = false) := by show _ = _; rw [HK2.out, HF.out]; rfl
                                  clear HK2 HF
                                  go_wp2_with (first | (go_at_call 41; refine (HRl.out _).mono ?_; rintro e w9 ⟨rfl, h9⟩; have h9s := h9.symm; clear h9; subst h9s) | (go_at_call 40; refine (HRd.out _).mono ?_; rintro e w9 ⟨rfl, h9⟩; have h9s := h9.symm; clear h9; subst h9s))
                                  go_ret
                                  exact ⟨ret_bool (by rw [HO2.out, HE.out]; try rfl), HB.out⟩
                      · rw [h1] at HRd
                        have HT : Hid (upD true z = true) := by show _ = _; first | assumption | decide | (unfold upD; simp [h0, h1])
                        have HK3 : Hid (a2 = (U.data.toList.drop (k + 1)).all (fun b => upD true b.toNat)) := by show _ = _; rw [HK2.out, HT.out]; rfl
                        clear HK2 HT
                        go_wp2_with (first | (go_at_call 41; refine (HRl.out _).mono ?_; rintro e w9 ⟨rfl, h9⟩; have h9s := h9.symm; clear h9; subst h9s) | (go_at_call 40; refine (HRd.out _).mono ?_; rintro e w9 ⟨rfl, h9⟩; have h9s := h9.symm; clear h9; subst h9s))
                        go_roundg (gk - 1)
                        case measure => have := HG.out; omega
                        case rel => exact ⟨k + 1, by have := HG.out; omega, by first | rfl | go_num, HK3.out, rfl⟩
                    · rw [h0] at HRl
                      have HT : Hid (upD true z = true) := by show _ = _; first | assumption | decide | (unfold upD; simp [h0])
                      have HK3 : Hid (a2 = (U.data.toList.drop (k + 1)).all (fun b => upD true b.toNat)) := by show _ = _; rw [HK2.out, HT.out]; rfl
                      clear HK2 HT
                      go_wp2_with (first | (go_at_call 41; refine (HRl.out _).mono ?_; rintro e w9 ⟨rfl, h9⟩; have h9s := h9.symm; clear h9; subst h9s) | (go_at_call 40; refine (HRd.out _).mono ?_; rintro e w9 ⟨rfl, h9⟩; have h9s := h9.symm; clear h9; subst h9s))
                      go_roundg (gk - 1)
                      case measure => have := HG.out; omega
                      case rel => exact ⟨k + 1, by have := HG.out; omega, by first | rfl | go_num, HK3.out, rfl⟩
                  · have HE : Hid (a2 = true) := by show _ = _; rw [HK.out, List.drop_eq_nil_of_le (by rw [HSz2.out]; omega)]; rfl
                    clear HK hk
                    have HO3 : Hid (OK = R.data.toList.all (fun b => reD b.toNat)) := by show _ = _; rw [HO2.out, HE.out]; rfl
                    clear HO2 HE HA2 HSz2
                    go_wp2_with fail
                    have HA3 : Hid (R.data.toList.all (fun b => reD b.toNat) = (R.data.toList.drop 0).all (fun b => reD b.toNat)) := rfl
                    have HSz3 : Hid (R.data.toList.length = R.size) := size20 R
                    generalize hA3 : R.data.toList.all (fun b => reD b.toNat) = a3 at *
                    clear hA3
                    go_loopg [7, 8] R.size (fun g i j0 wr => ∃ k : Nat, k + g = R.size ∧ i = .int .i64 k ∧ Hid (a3 = (R.data.toList.drop k).all (fun b => reD b.toNat)) ∧ W = wr)
                    case atStart => exact ⟨0, by omega, rfl, HA3.out, rfl⟩
                    case round =>
                      obtain ⟨k, hk, rfl, HK, hwr⟩ := hrel
                      subst hwr
                      have HG : Hid (k + gk = R.size) := hk
                      by_cases hlt : k < R.size
                      · have HD : Hid (R.data.toList.drop k = R[k] :: R.data.toList.drop (k + 1)) := drop20 hlt
                        have HK2 : Hid (a3 = (reD (R[k]'hlt).toNat && (R.data.toList.drop (k + 1)).all (fun b => reD b.toNat))) := by show _ = _; rw [HK.out, HD.out, List.all_cons]
                        clear hk HK HD
                        have hzr : 0 ≤ (((R[k]'hlt).toNat : Nat) : Int) ∧ (((R[k]'hlt).toNat : Nat) : Int) < 256 := ⟨by omega, by have := (R[k]'hlt).toNat_lt; omega⟩
                        obtain ⟨z, hz⟩ : ∃ z : Int, z = (((R[k]'hlt).toNat : Nat) : Int) := ⟨_, rfl⟩
                        rw [← hz] at HK2 hzr
                        have hzz : (((R[k]'hlt).toNat : Nat) : Int) = z := hz.symm
                        clear hz
                        have HRd : Hid (∀ V, Calls Tryd.prog 40 #[.int .u8 z] V fun e w' => e = .returned (.bool (digR z)) ∧ w' = V) := fun V => rDigit20_any z V
                        have HRl : Hid (∀ V, Calls Tryd.prog 41 #[.int .u8 z] V fun e w' => e = .returned (.bool (letR z)) ∧ w' = V) := fun V => rLetter20_any z V
                        cases h0 : letR z
                        · rw [h0] at HRl
                          cases h1 : digR z
                          · rw [h1] at HRd
                            by_cases h2 : z = 46
                            · subst h2
                              have HT : Hid (reD 46 = true) := by show _ = _; first | assumption | decide | (unfold reD; simp [h0, h1])
                              have HK3 : Hid (a3 = (R.data.toList.drop (k + 1)).all (fun b => reD b.toNat)) := by show _ = _; rw [HK2.out, HT.out]; rfl
                              clear HK2 HT
                              go_wp2_with (first | (go_at_call 41; refine (HRl.out _).mono ?_; rintro e w9 ⟨rfl, h9⟩; have h9s := h9.symm; clear h9; subst h9s) | (go_at_call 40; refine (HRd.out _).mono ?_; rintro e w9 ⟨rfl, h9⟩; have h9s := h9.symm; clear h9; subst h9s))
                              go_roundg (gk - 1)
                              case measure => have := HG.out; omega
                              case rel => exact ⟨k + 1, by have := HG.out; omega, by first | rfl | go_num, HK3.out, rfl⟩
                            · have b2 : (z != 46) = true := by simpa using h2
                              have d2 : (z == 46) = false := by simpa using h2
                              by_cases h3 : z = 43
                              · subst h3
                                have HT : Hid (reD 43 = true) := by show _ = _; first | assumption | decide | (unfold reD; simp [h0, h1, h2])
                                have HK3 : Hid (a3 = (R.data.toList.drop (k + 1)).all (fun b => reD b.toNat)) := by show _ = _; rw [HK2.out, HT.out]; rfl
                                clear HK2 HT
                                go_wp2_with (first | (go_at_call 41; refine (HRl.out _).mono ?_; rintro e w9 ⟨rfl, h9⟩; have h9s := h9.symm; clear h9; subst h9s) | (go_at_call 40; refine (HRd.out _).mono ?_; rintro e w9 ⟨rfl, h9⟩; have h9s := h9.symm; clear h9; subst h9s))
                                go_roundg (gk - 1)
                                case measure => have := HG.out; omega
                                case rel => exact ⟨k + 1, by have := HG.out; omega, by first | rfl | go_num, HK3.out, rfl⟩
                              · have b3 : (z != 43) = true := by simpa using h3
                                have d3 : (z == 43) = false := by simpa using h3
                                by_cases h4 : z = 126
                                · subst h4
                                  have HT : Hid (reD 126 = true) := by show _ = _; first | assumption | decide | (unfold reD; simp [h0, h1, h2, h3])
                                  have HK3 : Hid (a3 = (R.data.toList.drop (k + 1)).all (fun b => reD b.toNat)) := by show _ = _; rw [HK2.out, HT.out]; rfl
                                  clear HK2 HT
                                  go_wp2_with (first | (go_at_call 41; refine (HRl.out _).mono ?_; rintro e w9 ⟨rfl, h9⟩; have h9s := h9.symm; clear h9; subst h9s) | (go_at_call 40; refine (HRd.out _).mono ?_; rintro e w9 ⟨rfl, h9⟩; have h9s := h9.symm; clear h9; subst h9s))
                                  go_roundg (gk - 1)
                                  case measure => have := HG.out; omega
                                  case rel => exact ⟨k + 1, by have := HG.out; omega, by first | rfl | go_num, HK3.out, rfl⟩
                                · have b4 : (z != 126) = true := by simpa using h4
                                  have d4 : (z == 126) = false := by simpa using h4
                                  have HF : Hid (reD z = false) := by show _ = _; first | assumption | decide | (unfold reD; simp [h0, h1, h2, h3, h4])
                                  have HE : Hid (a3 = false) := by show _ = _; rw [HK2.out, HF.out]; rfl
                                  clear HK2 HF
                                  go_wp2_with (first | (go_at_call 41; refine (HRl.out _).mono ?_; rintro e w9 ⟨rfl, h9⟩; have h9s := h9.symm; clear h9; subst h9s) | (go_at_call 40; refine (HRd.out _).mono ?_; rintro e w9 ⟨rfl, h9⟩; have h9s := h9.symm; clear h9; subst h9s))
                                  go_ret
                                  exact ⟨ret_bool (by rw [HO3.out, HE.out]; try rfl), HB.out⟩
                          · rw [h1] at HRd
                            have HT : Hid (reD z = true) := by show _ = _; first | assumption | decide | (unfold reD; simp [h0, h1])
                            have HK3 : Hid (a3 = (R.data.toList.drop (k + 1)).all (fun b => reD b.toNat)) := by show _ = _; rw [HK2.out, HT.out]; rfl
                            clear HK2 HT
                            go_wp2_with (first | (go_at_call 41; refine (HRl.out _).mono ?_; rintro e w9 ⟨rfl, h9⟩; have h9s := h9.symm; clear h9; subst h9s) | (go_at_call 40; refine (HRd.out _).mono ?_; rintro e w9 ⟨rfl, h9⟩; have h9s := h9.symm; clear h9; subst h9s))
                            go_roundg (gk - 1)
                            case measure => have := HG.out; omega
                            case rel => exact ⟨k + 1, by have := HG.out; omega, by first | rfl | go_num, HK3.out, rfl⟩
                        · rw [h0] at HRl
                          have HT : Hid (reD z = true) := by show _ = _; first | assumption | decide | (unfold reD; simp [h0])
                          have HK3 : Hid (a3 = (R.data.toList.drop (k + 1)).all (fun b => reD b.toNat)) := by show _ = _; rw [HK2.out, HT.out]; rfl
                          clear HK2 HT
                          go_wp2_with (first | (go_at_call 41; refine (HRl.out _).mono ?_; rintro e w9 ⟨rfl, h9⟩; have h9s := h9.symm; clear h9; subst h9s) | (go_at_call 40; refine (HRd.out _).mono ?_; rintro e w9 ⟨rfl, h9⟩; have h9s := h9.symm; clear h9; subst h9s))
                          go_roundg (gk - 1)
                          case measure => have := HG.out; omega
                          case rel => exact ⟨k + 1, by have := HG.out; omega, by first | rfl | go_num, HK3.out, rfl⟩
                      · have HE : Hid (a3 = true) := by show _ = _; rw [HK.out, List.drop_eq_nil_of_le (by rw [HSz3.out]; omega)]; rfl
                        clear HK hk
                        go_wp2
                        go_ret
                        exact ⟨ret_bool (by rw [HO3.out, HE.out]), HB.out⟩
      · cases hR : R.toList.isEmpty
        · have hR2 := emp_cons hR
          cases hU : U.toList.isEmpty
          rotate_left
          · have hU2 := emp_nil hU
            go_wp2
            go_ret
            exact ⟨ret_bool (by rw [HOd.out]; simp [hU]), HB.out⟩
          · have hU2 := emp_cons hU
            have h0 : 0 < U.size := pos20 hU
            have HRd0 : Hid (∀ V, Calls Tryd.prog 40 #[.int .u8 (((U[0]'h0).toNat : Nat) : Int)] V fun e w' => e = .returned (.bool (digR ((U[0]'h0).toNat : Int))) ∧ w' = V) := fun V => rDigit20_any _ V
            have hh := h0_at U h0
            cases hd : digR ((U[0]'h0).toNat : Int)
            · rw [hd] at HRd0 hh
              go_wp2_with (go_at_call 40; refine (HRd0.out _).mono ?_; rintro e w9 ⟨rfl, h9⟩; have h9s := h9.symm; clear h9; subst h9s)
              go_ret
              exact ⟨ret_bool (by rw [HOd.out]; simp [hU, hh]), HB.out⟩
            · rw [hd] at HRd0 hh
              have HO1 : Hid (OK = (E.data.toList.all (fun b => digR b.toNat) && (U.data.toList.all (fun b => upD true b.toNat) && R.data.toList.all (fun b => reD b.toNat)))) := by show _ = _; rw [HOd.out]; simp [hU, hh, hE, hR]
              clear HOd
              go_wp2_with (go_at_call 40; refine (HRd0.out _).mono ?_; rintro e w9 ⟨rfl, h9⟩; have h9s := h9.symm; clear h9; subst h9s)
              clear HRd0 hd hh
              have HA1 : Hid (E.data.toList.all (fun b => digR b.toNat) = (E.data.toList.drop 0).all (fun b => digR b.toNat)) := rfl
              have HSz1 : Hid (E.data.toList.length = E.size) := size20 E
              generalize hA1 : E.data.toList.all (fun b => digR b.toNat) = a1 at *
              clear hA1
              go_loopg [4] E.size (fun g i wr => ∃ k : Nat, k + g = E.size ∧ i = .int .i64 k ∧ Hid (a1 = (E.data.toList.drop k).all (fun b => digR b.toNat)) ∧ W = wr)
              case atStart => exact ⟨0, by omega, rfl, HA1.out, rfl⟩
              case round =>
                obtain ⟨k, hk, rfl, HK, hwr⟩ := hrel
                subst hwr
                have HG : Hid (k + gk = E.size) := hk
                by_cases hlt : k < E.size
                · have HD : Hid (E.data.toList.drop k = E[k] :: E.data.toList.drop (k + 1)) := drop20 hlt
                  have HK2 : Hid (a1 = (digR (E[k]'hlt).toNat && (E.data.toList.drop (k + 1)).all (fun b => digR b.toNat))) := by show _ = _; rw [HK.out, HD.out, List.all_cons]
                  clear hk HK HD
                  have hzr : 0 ≤ (((E[k]'hlt).toNat : Nat) : Int) ∧ (((E[k]'hlt).toNat : Nat) : Int) < 256 := ⟨by omega, by have := (E[k]'hlt).toNat_lt; omega⟩
                  obtain ⟨z, hz⟩ : ∃ z : Int, z = (((E[k]'hlt).toNat : Nat) : Int) := ⟨_, rfl⟩
                  rw [← hz] at HK2 hzr
                  have hzz : (((E[k]'hlt).toNat : Nat) : Int) = z := hz.symm
                  clear hz
                  have HRd : Hid (∀ V, Calls Tryd.prog 40 #[.int .u8 z] V fun e w' => e = .returned (.bool (digR z)) ∧ w' = V) := fun V => rDigit20_any z V
                  have HRl : Hid (∀ V, Calls Tryd.prog 41 #[.int .u8 z] V fun e w' => e = .returned (.bool (letR z)) ∧ w' = V) := fun V => rLetter20_any z V
                  cases h0 : digR z
                  · rw [h0] at HRd
                    have HF : Hid (digR z = false) := by show _ = _; first | assumption | decide | (unfold digR; simp [h0])
                    have HE : Hid (a1 = false) := by show _ = _; rw [HK2.out, HF.out]; rfl
                    clear HK2 HF
                    go_wp2_with (first | (go_at_call 41; refine (HRl.out _).mono ?_; rintro e w9 ⟨rfl, h9⟩; have h9s := h9.symm; clear h9; subst h9s) | (go_at_call 40; refine (HRd.out _).mono ?_; rintro e w9 ⟨rfl, h9⟩; have h9s := h9.symm; clear h9; subst h9s))
                    go_ret
                    exact ⟨ret_bool (by rw [HO1.out, HE.out]; try rfl), HB.out⟩
                  · rw [h0] at HRd
                    have HT : Hid (digR z = true) := by show _ = _; first | assumption | decide | (unfold digR; simp [h0])
                    have HK3 : Hid (a1 = (E.data.toList.drop (k + 1)).all (fun b => digR b.toNat)) := by show _ = _; rw [HK2.out, HT.out]; rfl
                    clear HK2 HT
                    go_wp2_with (first | (go_at_call 41; refine (HRl.out _).mono ?_; rintro e w9 ⟨rfl, h9⟩; have h9s := h9.symm; clear h9; subst h9s) | (go_at_call 40; refine (HRd.out _).mono ?_; rintro e w9 ⟨rfl, h9⟩; have h9s := h9.symm; clear h9; subst h9s))
                    go_roundg (gk - 1)
                    case measure => have := HG.out; omega
                    case rel => exact ⟨k + 1, by have := HG.out; omega, by first | rfl | go_num, HK3.out, rfl⟩
                · have HE : Hid (a1 = true) := by show _ = _; rw [HK.out, List.drop_eq_nil_of_le (by rw [HSz1.out]; omega)]; rfl
                  clear HK hk
                  have HO2 : Hid (OK = (U.data.toList.all (fun b => upD true b.toNat) && R.data.toList.all (fun b => reD b.toNat))) := by show _ = _; rw [HO1.out, HE.out]; rfl
                  clear HO1 HE HA1 HSz1
                  go_wp2_with fail
                  have HA2 : Hid (U.data.toList.all (fun b => upD true b.toNat) = (U.data.toList.drop 0).all (fun b => upD true b.toNat)) := rfl
                  have HSz2 : Hid (U.data.toList.length = U.size) := size20 U
                  generalize hA2 : U.data.toList.all (fun b => upD true b.toNat) = a2 at *
                  clear hA2
                  go_loopg [5, 6] U.size (fun g i j0 wr => ∃ k : Nat, k + g = U.size ∧ i = .int .i64 k ∧ Hid (a2 = (U.data.toList.drop k).all (fun b => upD true b.toNat)) ∧ W = wr)
                  case atStart => exact ⟨0, by omega, rfl, HA2.out, rfl⟩
                  case round =>
                    obtain ⟨k, hk, rfl, HK, hwr⟩ := hrel
                    subst hwr
                    have HG : Hid (k + gk = U.size) := hk
                    by_cases hlt : k < U.size
                    · have HD : Hid (U.data.toList.drop k = U[k] :: U.data.toList.drop (k + 1)) := drop20 hlt
                      have HK2 : Hid (a2 = (upD true (U[k]'hlt).toNat && (U.data.toList.drop (k + 1)).all (fun b => upD true b.toNat))) := by show _ = _; rw [HK.out, HD.out, List.all_cons]
                      clear hk HK HD
                      have hzr : 0 ≤ (((U[k]'hlt).toNat : Nat) : Int) ∧ (((U[k]'hlt).toNat : Nat) : Int) < 256 := ⟨by omega, by have := (U[k]'hlt).toNat_lt; omega⟩
                      obtain ⟨z, hz⟩ : ∃ z : Int, z = (((U[k]'hlt).toNat : Nat) : Int) := ⟨_, rfl⟩
                      rw [← hz] at HK2 hzr
                      have hzz : (((U[k]'hlt).toNat : Nat) : Int) = z := hz.symm
                      clear hz
                      have HRd : Hid (∀ V, Calls Tryd.prog 40 #[.int .u8 z] V fun e w' => e = .returned (.bool (digR z)) ∧ w' = V) := fun V => rDigit20_any z V
                      have HRl : Hid (∀ V, Calls Tryd.prog 41 #[.int .u8 z] V fun e w' => e = .returned (.bool (letR z)) ∧ w' = V) := fun V => rLetter20_any z V
                      cases h0 : letR z
                      · rw [h0] at HRl
                        cases h1 : digR z
                        · rw [h1] at HRd
                          by_cases h2 : z = 46
                          · subst h2
                            have HT : Hid (upD true 46 = true) := by show _ = _; first | assumption | decide | (unfold upD; simp [h0, h1])
                            have HK3 : Hid (a2 = (U.data.toList.drop (k + 1)).all (fun b => upD true b.toNat)) := by show _ = _; rw [HK2.out, HT.out]; rfl
                            clear HK2 HT
                            go_wp2_with (first | (go_at_call 41; refine (HRl.out _).mono ?_; rintro e w9 ⟨rfl, h9⟩; have h9s := h9.symm; clear h9; subst h9s) | (go_at_call 40; refine (HRd.out _).mono ?_; rintro e w9 ⟨rfl, h9⟩; have h9s := h9.symm; clear h9; subst h9s))
                            go_roundg (gk - 1)
                            case measure => have := HG.out; omega
                            case rel => exact ⟨k + 1, by have := HG.out; omega, by first | rfl | go_num, HK3.out, rfl⟩
                          · have b2 : (z != 46) = true := by simpa using h2
                            have d2 : (z == 46) = false := by simpa using h2
                            by_cases h3 : z = 43
                            · subst h3
                              have HT : Hid (upD true 43 = true) := by show _ = _; first | assumption | decide | (unfold upD; simp [h0, h1, h2])
                              have HK3 : Hid (a2 = (U.data.toList.drop (k + 1)).all (fun b => upD true b.toNat)) := by show _ = _; rw [HK2.out, HT.out]; rfl
                              clear HK2 HT
                              go_wp2_with (first | (go_at_call 41; refine (HRl.out _).mono ?_; rintro e w9 ⟨rfl, h9⟩; have h9s := h9.symm; clear h9; subst h9s) | (go_at_call 40; refine (HRd.out _).mono ?_; rintro e w9 ⟨rfl, h9⟩; have h9s := h9.symm; clear h9; subst h9s))
                              go_roundg (gk - 1)
                              case measure => have := HG.out; omega
                              case rel => exact ⟨k + 1, by have := HG.out; omega, by first | rfl | go_num, HK3.out, rfl⟩
                            · have b3 : (z != 43) = true := by simpa using h3
                              have d3 : (z == 43) = false := by simpa using h3
                              by_cases h4 : z = 45
                              · subst h4
                                have HT : Hid (upD true 45 = true) := by show _ = _; first | assumption | decide | (unfold upD; simp [h0, h1, h2, h3])
                                have HK3 : Hid (a2 = (U.data.toList.drop (k + 1)).all (fun b => upD true b.toNat)) := by show _ = _; rw [HK2.out, HT.out]; rfl
                                clear HK2 HT
                                go_wp2_with (first | (go_at_call 41; refine (HRl.out _).mono ?_; rintro e w9 ⟨rfl, h9⟩; have h9s := h9.symm; clear h9; subst h9s) | (go_at_call 40; refine (HRd.out _).mono ?_; rintro e w9 ⟨rfl, h9⟩; have h9s := h9.symm; clear h9; subst h9s))
                                go_roundg (gk - 1)
                                case measure => have := HG.out; omega
                                case rel => exact ⟨k + 1, by have := HG.out; omega, by first | rfl | go_num, HK3.out, rfl⟩
                              · have b4 : (z != 45) = true := by simpa using h4
                                have d4 : (z == 45) = false := by simpa using h4
                                by_cases h5 : z = 126
                                · subst h5
                                  have HT : Hid (upD true 126 = true) := by show _ = _; first | assumption | decide | (unfold upD; simp [h0, h1, h2, h3, h4])
                                  have HK3 : Hid (a2 = (U.data.toList.drop (k + 1)).all (fun b => upD true b.toNat)) := by show _ = _; rw [HK2.out, HT.out]; rfl
                                  clear HK2 HT
                                  go_wp2_with (first | (go_at_call 41; refine (HRl.out _).mono ?_; rintro e w9 ⟨rfl, h9⟩; have h9s := h9.symm; clear h9; subst h9s) | (go_at_call 40; refine (HRd.out _).mono ?_; rintro e w9 ⟨rfl, h9⟩; have h9s := h9.symm; clear h9; subst h9s))
                                  go_roundg (gk - 1)
                                  case measure => have := HG.out; omega
                                  case rel => exact ⟨k + 1, by have := HG.out; omega, by first | rfl | go_num, HK3.out, rfl⟩
                                · have b5 : (z != 126) = true := by simpa using h5
                                  have d5 : (z == 126) = false := by simpa using h5
                                  by_cases h6 : z = 58
                                  · subst h6
                                    have HT : Hid (upD true 58 = true) := by show _ = _; first | assumption | decide | (unfold upD; simp [h0, h1, h2, h3, h4, h5])
                                    have HK3 : Hid (a2 = (U.data.toList.drop (k + 1)).all (fun b => upD true b.toNat)) := by show _ = _; rw [HK2.out, HT.out]; rfl
                                    clear HK2 HT
                                    go_wp2_with (first | (go_at_call 41; refine (HRl.out _).mono ?_; rintro e w9 ⟨rfl, h9⟩; have h9s := h9.symm; clear h9; subst h9s) | (go_at_call 40; refine (HRd.out _).mono ?_; rintro e w9 ⟨rfl, h9⟩; have h9s := h9.symm; clear h9; subst h9s))
                                    go_roundg (gk - 1)
                                    case measure => have := HG.out; omega
                                    case rel => exact ⟨k + 1, by have := HG.out; omega, by first | rfl | go_num, HK3.out, rfl⟩
                                  · have b6 : (z != 58) = true := by simpa using h6
                                    have d6 : (z == 58) = false := by simpa using h6
                                    have HF : Hid (upD true z = false) := by show _ = _; first | assumption | decide | (unfold upD; simp [h0, h1, h2, h3, h4, h5, h6])
                                    have HE : Hid (a2 = false) := by show _ = _; rw [HK2.out, HF.out]; rfl
                                    clear HK2 HF
                                    go_wp2_with (first | (go_at_call 41; refine (HRl.out _).mono ?_; rintro e w9 ⟨rfl, h9⟩; have h9s := h9.symm; clear h9; subst h9s) | (go_at_call 40; refine (HRd.out _).mono ?_; rintro e w9 ⟨rfl, h9⟩; have h9s := h9.symm; clear h9; subst h9s))
                                    go_ret
                                    exact ⟨ret_bool (by rw [HO2.out, HE.out]; try rfl), HB.out⟩
                        · rw [h1] at HRd
                          have HT : Hid (upD true z = true) := by show _ = _; first | assumption | decide | (unfold upD; simp [h0, h1])
                          have HK3 : Hid (a2 = (U.data.toList.drop (k + 1)).all (fun b => upD true b.toNat)) := by show _ = _; rw [HK2.out, HT.out]; rfl
                          clear HK2 HT
                          go_wp2_with (first | (go_at_call 41; refine (HRl.out _).mono ?_; rintro e w9 ⟨rfl, h9⟩; have h9s := h9.symm; clear h9; subst h9s) | (go_at_call 40; refine (HRd.out _).mono ?_; rintro e w9 ⟨rfl, h9⟩; have h9s := h9.symm; clear h9; subst h9s))
                          go_roundg (gk - 1)
                          case measure => have := HG.out; omega
                          case rel => exact ⟨k + 1, by have := HG.out; omega, by first | rfl | go_num, HK3.out, rfl⟩
                      · rw [h0] at HRl
                        have HT : Hid (upD true z = true) := by show _ = _; first | assumption | decide | (unfold upD; simp [h0])
                        have HK3 : Hid (a2 = (U.data.toList.drop (k + 1)).all (fun b => upD true b.toNat)) := by show _ = _; rw [HK2.out, HT.out]; rfl
                        clear HK2 HT
                        go_wp2_with (first | (go_at_call 41; refine (HRl.out _).mono ?_; rintro e w9 ⟨rfl, h9⟩; have h9s := h9.symm; clear h9; subst h9s) | (go_at_call 40; refine (HRd.out _).mono ?_; rintro e w9 ⟨rfl, h9⟩; have h9s := h9.symm; clear h9; subst h9s))
                        go_roundg (gk - 1)
                        case measure => have := HG.out; omega
                        case rel => exact ⟨k + 1, by have := HG.out; omega, by first | rfl | go_num, HK3.out, rfl⟩
                    · have HE : Hid (a2 = true) := by show _ = _; rw [HK.out, List.drop_eq_nil_of_le (by rw [HSz2.out]; omega)]; rfl
                      clear HK hk
                      have HO3 : Hid (OK = R.data.toList.all (fun b => reD b.toNat)) := by show _ = _; rw [HO2.out, HE.out]; rfl
                      clear HO2 HE HA2 HSz2
                      go_wp2_with fail
                      have HA3 : Hid (R.data.toList.all (fun b => reD b.toNat) = (R.data.toList.drop 0).all (fun b => reD b.toNat)) := rfl
                      have HSz3 : Hid (R.data.toList.length = R.size) := size20 R
                      generalize hA3 : R.data.toList.all (fun b => reD b.toNat) = a3 at *
                      clear hA3
                      go_loopg [7, 8] R.size (fun g i j0 wr => ∃ k : Nat, k + g = R.size ∧ i = .int .i64 k ∧ Hid (a3 = (R.data.toList.drop k).all (fun b => reD b.toNat)) ∧ W = wr)
                      case atStart => exact ⟨0, by omega, rfl, HA3.out, rfl⟩
                      case round =>
                        obtain ⟨k, hk, rfl, HK, hwr⟩ := hrel
                        subst hwr
                        have HG : Hid (k + gk = R.size) := hk
                        by_cases hlt : k < R.size
                        · have HD : Hid (R.data.toList.drop k = R[k] :: R.data.toList.drop (k + 1)) := drop20 hlt
                          have HK2 : Hid (a3 = (reD (R[k]'hlt).toNat && (R.data.toList.drop (k + 1)).all (fun b => reD b.toNat))) := by show _ = _; rw [HK.out, HD.out, List.all_cons]
                          clear hk HK HD
                          have hzr : 0 ≤ (((R[k]'hlt).toNat : Nat) : Int) ∧ (((R[k]'hlt).toNat : Nat) : Int) < 256 := ⟨by omega, by have := (R[k]'hlt).toNat_lt; omega⟩
                          obtain ⟨z, hz⟩ : ∃ z : Int, z = (((R[k]'hlt).toNat : Nat) : Int) := ⟨_, rfl⟩
                          rw [← hz] at HK2 hzr
                          have hzz : (((R[k]'hlt).toNat : Nat) : Int) = z := hz.symm
                          clear hz
                          have HRd : Hid (∀ V, Calls Tryd.prog 40 #[.int .u8 z] V fun e w' => e = .returned (.bool (digR z)) ∧ w' = V) := fun V => rDigit20_any z V
                          have HRl : Hid (∀ V, Calls Tryd.prog 41 #[.int .u8 z] V fun e w' => e = .returned (.bool (letR z)) ∧ w' = V) := fun V => rLetter20_any z V
                          cases h0 : letR z
                          · rw [h0] at HRl
                            cases h1 : digR z
                            · rw [h1] at HRd
                              by_cases h2 : z = 46
                              · subst h2
                                have HT : Hid (reD 46 = true) := by show _ = _; first | assumption | decide | (unfold reD; simp [h0, h1])
                                have HK3 : Hid (a3 = (R.data.toList.drop (k + 1)).all (fun b => reD b.toNat)) := by show _ = _; rw [HK2.out, HT.out]; rfl
                                clear HK2 HT
                                go_wp2_with (first | (go_at_call 41; refine (HRl.out _).mono ?_; rintro e w9 ⟨rfl, h9⟩; have h9s := h9.symm; clear h9; subst h9s) | (go_at_call 40; refine (HRd.out _).mono ?_; rintro e w9 ⟨rfl, h9⟩; have h9s := h9.symm; clear h9; subst h9s))
                                go_roundg (gk - 1)
                                case measure => have := HG.out; omega
                                case rel => exact ⟨k + 1, by have := HG.out; omega, by first | rfl | go_num, HK3.out, rfl⟩
                              · have b2 : (z != 46) = true := by simpa using h2
                                have d2 : (z == 46) = false := by simpa using h2
                                by_cases h3 : z = 43
                                · subst h3
                                  have HT : Hid (reD 43 = true) := by show _ = _; first | assumption | decide | (unfold reD; simp [h0, h1, h2])
                                  have HK3 : Hid (a3 = (R.data.toList.drop (k + 1)).all (fun b => reD b.toNat)) := by show _ = _; rw [HK2.out, HT.out]; rfl
                                  clear HK2 HT
                                  go_wp2_with (first | (go_at_call 41; refine (HRl.out _).mono ?_; rintro e w9 ⟨rfl, h9⟩; have h9s := h9.symm; clear h9; subst h9s) | (go_at_call 40; refine (HRd.out _).mono ?_; rintro e w9 ⟨rfl, h9⟩; have h9s := h9.symm; clear h9; subst h9s))
                                  go_roundg (gk - 1)
                                  case measure => have := HG.out; omega
                                  case rel => exact ⟨k + 1, by have := HG.out; omega, by first | rfl | go_num, HK3.out, rfl⟩
                                · have b3 : (z != 43) = true := by simpa using h3
                                  have d3 : (z == 43) = false := by simpa using h3
                                  by_cases h4 : z = 126
                                  · subst h4
                                    have HT : Hid (reD 126 = true) := by show _ = _; first | assumption | decide | (unfold reD; simp [h0, h1, h2, h3])
                                    have HK3 : Hid (a3 = (R.data.toList.drop (k + 1)).all (fun b => reD b.toNat)) := by show _ = _; rw [HK2.out, HT.out]; rfl
                                    clear HK2 HT
                                    go_wp2_with (first | (go_at_call 41; refine (HRl.out _).mono ?_; rintro e w9 ⟨rfl, h9⟩; have h9s := h9.symm; clear h9; subst h9s) | (go_at_call 40; refine (HRd.out _).mono ?_; rintro e w9 ⟨rfl, h9⟩; have h9s := h9.symm; clear h9; subst h9s))
                                    go_roundg (gk - 1)
                                    case measure => have := HG.out; omega
                                    case rel => exact ⟨k + 1, by have := HG.out; omega, by first | rfl | go_num, HK3.out, rfl⟩
                                  · have b4 : (z != 126) = true := by simpa using h4
                                    have d4 : (z == 126) = false := by simpa using h4
                                    have HF : Hid (reD z = false) := by show _ = _; first | assumption | decide | (unfold reD; simp [h0, h1, h2, h3, h4])
                                    have HE : Hid (a3 = false) := by show _ = _; rw [HK2.out, HF.out]; rfl
                                    clear HK2 HF
                                    go_wp2_with (first | (go_at_call 41; refine (HRl.out _).mono ?_; rintro e w9 ⟨rfl, h9⟩; have h9s := h9.symm; clear h9; subst h9s) | (go_at_call 40; refine (HRd.out _).mono ?_; rintro e w9 ⟨rfl, h9⟩; have h9s := h9.symm; clear h9; subst h9s))
                                    go_ret
                                    exact ⟨ret_bool (by rw [HO3.out, HE.out]; try rfl), HB.out⟩
                            · rw [h1] at HRd
                              have HT : Hid (reD z = true) := by show _ = _; first | assumption | decide | (unfold reD; simp [h0, h1])
                              have HK3 : Hid (a3 = (R.data.toList.drop (k + 1)).all (fun b => reD b.toNat)) := by show _ = _; rw [HK2.out, HT.out]; rfl
                              clear HK2 HT
                              go_wp2_with (first | (go_at_call 41; refine (HRl.out _).mono ?_; rintro e w9 ⟨rfl, h9⟩; have h9s := h9.symm; clear h9; subst h9s) | (go_at_call 40; refine (HRd.out _).mono ?_; rintro e w9 ⟨rfl, h9⟩; have h9s := h9.symm; clear h9; subst h9s))
                              go_roundg (gk - 1)
                              case measure => have := HG.out; omega
                              case rel => exact ⟨k + 1, by have := HG.out; omega, by first | rfl | go_num, HK3.out, rfl⟩
                          · rw [h0] at HRl
                            have HT : Hid (reD z = true) := by show _ = _; first | assumption | decide | (unfold reD; simp [h0])
                            have HK3 : Hid (a3 = (R.data.toList.drop (k + 1)).all (fun b => reD b.toNat)) := by show _ = _; rw [HK2.out, HT.out]; rfl
                            clear HK2 HT
                            go_wp2_with (first | (go_at_call 41; refine (HRl.out _).mono ?_; rintro e w9 ⟨rfl, h9⟩; have h9s := h9.symm; clear h9; subst h9s) | (go_at_call 40; refine (HRd.out _).mono ?_; rintro e w9 ⟨rfl, h9⟩; have h9s := h9.symm; clear h9; subst h9s))
                            go_roundg (gk - 1)
                            case measure => have := HG.out; omega
                            case rel => exact ⟨k + 1, by have := HG.out; omega, by first | rfl | go_num, HK3.out, rfl⟩
                        · have HE : Hid (a3 = true) := by show _ = _; rw [HK.out, List.drop_eq_nil_of_le (by rw [HSz3.out]; omega)]; rfl
                          clear HK hk
                          go_wp2
                          go_ret
                          exact ⟨ret_bool (by rw [HO3.out, HE.out]), HB.out⟩
        · have hR2 := emp_nil hR
          go_wp2
          go_ret
          exact ⟨ret_bool (by rw [HOd.out]; simp [hR]), HB.out⟩
    · have hE2 := emp_nil hE
      go_wp2
      go_ret
      exact ⟨ret_bool (by rw [HOd.out]; simp [hE]), HB.out⟩

end Go.Proofs.YtmanjignognplaaDoor
