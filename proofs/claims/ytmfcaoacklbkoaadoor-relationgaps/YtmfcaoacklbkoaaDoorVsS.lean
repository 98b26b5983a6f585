/-
  version.span, version.all at each kind of rune, walked (walks/genvs.py writes it).
-/
import Derived.Test.YtmfcaoacklbkoaaDoorVsW
set_option linter.unusedSimpArgs false
set_option linter.unusedVariables false
namespace Go.Proofs.YtmfcaoacklbkoaaDoor
open Go Go.RowKit

set_option maxHeartbeats 1600000 in
theorem span_digit (s : ByteArray) (w : World) : Calls Tryd.prog 62 #[.string s, .func (.func 59) #[] #[]] w fun e w' => e = .returned (.int .i64 (spn digR s.data.toList)) ∧ Below w.heap.size w w' := by
  have HH : Hid (∀ (r : Int) (W : World), Calls Tryd.prog 59 #[.int .i32 r] W fun e w' => e = .returned (.bool (digR r)) ∧ w' = W) := digit20_any
  have HHi : Hid (∀ r : Int, 128 ≤ r → digR r = false) := fun r h => digR_hi h
  have HSz : Hid (s.data.toList.length = s.size) := size20 s
  obtain ⟨E, hE⟩ : ∃ E, E = spn digR s.data.toList := ⟨_, rfl⟩
  rw [← hE]
  have HE0 : Hid (0 + spn digR (s.data.toList.drop 0) = E) := by show _ = _; rw [hE]; simp
  obtain ⟨N, hN⟩ : ∃ N, N = w.heap.size := ⟨_, rfl⟩
  have HN : Hid (N = w.heap.size) := hN
  have HB0 : Hid (Below w.heap.size w (w.iter s 0)) := (Below.refl _ _).alloc (Nat.le_refl _) _
  rw [← hN] at HB0 ⊢
  clear hE
  go_enter Tryd.func62, Tryd.ntmps62
  go_wp2
  rw [← hN]
  clear hN
  go_loopg [] s.size (fun g wr => ∃ p : Nat, p + g = s.size ∧ Hid (p + spn digR (s.data.toList.drop p) = E) ∧ wr.heap[N]? = some (.stringIter s p) ∧ Hid (Below N w wr))
  case atStart => exact ⟨0, by omega, HE0.out, by rw [HN.out]; exact World.iter_heap _ _ _, HB0.out⟩
  case round =>
    obtain ⟨p, hg, HE, hit, HB⟩ := hrel
    have HG : Hid (p + gk = s.size) := hg
    clear HE0 HB0
    by_cases hp : p < s.size
    · have HD : Hid (s.data.toList.drop p = s[p] :: s.data.toList.drop (p + 1)) := drop20 hp
      rw [HD.out] at HE
      by_cases hb : (s[p]'hp).toNat < 128
      · have hnx : ∀ ty, (Instr.next (.pointer (some ⟨N, 0, none⟩)) true ty).run Tryd.prog wr = .ok (.tuple #[.bool true, .int .i64 p, .int .i32 (s[p]'hp).toNat]) (wr.iterAt N s (p + 1)) := fun ty => Lib.run_next_ascii_at wr N s p ty hit hp hb
        have hit2 := Lib.iterAt_heap wr N s p (p + 1) hit
        have HB2 : Hid (Below N w (wr.iterAt N s (p + 1))) := HB.out.trans ⟨rfl, rfl, rfl, by rw [Lib.iterAt_size]; exact Nat.le_refl _, fun j hj => Lib.iterAt_other _ _ _ _ _ (by omega)⟩
        have HY : Hid (digR (s[p]'hp).toNat = true → p + 1 + spn digR (s.data.toList.drop (p + 1)) = E) := fun h => by have := HE.out; rw [spn_yes h] at this; omega
        have HNo : Hid (digR (s[p]'hp).toNat = false → p = E) := fun h => by have := HE.out; rw [spn_no h] at this; omega
        generalize wr.iterAt N s (p + 1) = w1 at *
        have HR : Hid (Calls Tryd.prog 59 #[.int .i32 (s[p]'hp).toNat] w1 fun e w' => e = .returned (.bool (digR (s[p]'hp).toNat)) ∧ w' = w1) := HH.out _ _
        clear hit HD HE hb
        generalize ((s[p]'hp).toNat : Int) = z at *
        generalize digR z = b at *
        cases b
        · have hpe : p = E := HNo.out rfl
          go_wp2_with (go_at_call 59; refine HR.out.mono ?_; rintro e w2 ⟨rfl, rfl⟩)
          go_ret
          exact ⟨rfl, HB2.out⟩
        · have HE2 : Hid (p + 1 + spn digR (s.data.toList.drop (p + 1)) = E) := HY.out rfl
          go_wp2_with (go_at_call 59; refine HR.out.mono ?_; rintro e w2 ⟨rfl, rfl⟩)
          go_roundg (gk - 1)
          case measure => have := HG.out; omega
          case rel => exact ⟨p + 1, by have := HG.out; omega, HE2.out, hit2, HB2.out⟩
      · have hnx : ∀ ty, (Instr.next (.pointer (some ⟨N, 0, none⟩)) true ty).run Tryd.prog wr = .ok (.tuple #[.bool true, .int .i64 p, .int .i32 (Utf8.decode s p).1]) (wr.iterAt N s (p + (Utf8.decode s p).2)) := fun ty => Lib.run_next_any_at wr N s p ty hit hp
        have HB2 : Hid (Below N w (wr.iterAt N s (p + (Utf8.decode s p).2))) := HB.out.trans ⟨rfl, rfl, rfl, by rw [Lib.iterAt_size]; exact Nat.le_refl _, fun j hj => Lib.iterAt_other _ _ _ _ _ (by omega)⟩
        have hpe : p = E := by have := HE.out; rw [spn_no (HHi.out _ (by omega))] at this; omega
        have hf : digR ((Utf8.decode s p).1 : Int) = false := HHi.out _ (by have := (decode_high s p hp (by omega)).1; omega)
        generalize wr.iterAt N s (p + (Utf8.decode s p).2) = w1 at *
        have HR : Hid (Calls Tryd.prog 59 #[.int .i32 (Utf8.decode s p).1] w1 fun e w' => e = .returned (.bool (digR (Utf8.decode s p).1)) ∧ w' = w1) := HH.out _ _
        rw [hf] at HR
        clear hit HD HE hb hf
        generalize ((Utf8.decode s p).1 : Int) = z at *
        go_wp2_with (go_at_call 59; refine HR.out.mono ?_; rintro e w2 ⟨rfl, rfl⟩)
        go_ret
        exact ⟨rfl, HB2.out⟩
    · have hpe : p = s.size := by omega
      have hnx : ∀ ty, (Instr.next (.pointer (some ⟨N, 0, none⟩)) true ty).run Tryd.prog wr = .ok (.tuple #[.bool false]) wr := fun ty => Lib.run_next_end_at wr N s p ty hit hp
      have hEs : (s.size : Int) = E := by
        have := HE.out
        rw [List.drop_eq_nil_of_le (by rw [HSz.out]; omega)] at this
        simp [spn] at this
        omega
      clear HE
      go_wp2
      go_ret
      exact ⟨rfl, HB.out⟩
set_option maxHeartbeats 1600000 in
theorem all_digit (s : ByteArray) (w : World) : Calls Tryd.prog 58 #[.string s, .func (.func 59) #[] #[]] w fun e w' => e = .returned (.bool (allS digR s)) ∧ Below w.heap.size w w' := by
  have HS : Hid (Calls Tryd.prog 62 #[.string s, .func (.func 59) #[] #[]] w fun e w' => e = .returned (.int .i64 (spn digR s.data.toList)) ∧ Below w.heap.size w w') := span_digit s w
  have HA : Hid (allS digR s = (!s.data.toList.isEmpty && (spn digR s.data.toList == s.data.toList.length))) := rfl
  have HL := ByteArray.toList_eq s
  have HSz := size20 s
  by_cases h0 : s.data.toList = []
  · have h1 : s.toList.isEmpty = true := by rw [HL, h0]; rfl
    have hs0 : s = ⟨#[]⟩ := by cases s with | mk d => simp at h0; rw [h0]
    subst hs0
    clear HS
    go_enter Tryd.func58, Tryd.ntmps58
    go_wp2
    go_ret
    exact ⟨ret_bool (by rw [HA.out]; rfl), Below.refl _ _⟩
  · have h1 : s.toList.isEmpty = false := by rw [HL]; simpa using h0
    have h2 : s.data.toList.isEmpty = false := by simpa using h0
    rw [h2] at HA
    have hd : ¬ s.data = #[] := fun e => h0 (by rw [e])
    rw [HSz] at HA
    clear h0 h2 HSz
    generalize spn digR s.data.toList = n at *
    have HA2 : Hid (allS digR s = ((n : Int) == (s.size : Int))) := by
      show _ = _
      rw [HA.out, Bool.eq_iff_iff]; simp; omega
    clear HA
    cases hn : ((n : Int) == (s.size : Int))
    all_goals
      go_enter Tryd.func58, Tryd.ntmps58
      go_wp2_with (go_at_call 62; refine HS.out.mono ?_; rintro e w2 ⟨rfl, bel⟩; have HB : Hid (Below w.heap.size w w2) := bel; clear bel)
      go_ret
      exact ⟨ret_bool (by rw [HA2.out, hn]; try simpa using hd), HB.out⟩
set_option maxHeartbeats 1600000 in
theorem span_plain (s : ByteArray) (w : World) : Calls Tryd.prog 62 #[.string s, .func (.func 61) #[] #[]] w fun e w' => e = .returned (.int .i64 (spn plnR s.data.toList)) ∧ Below w.heap.size w w' := by
  have HH : Hid (∀ (r : Int) (W : World), Calls Tryd.prog 61 #[.int .i32 r] W fun e w' => e = .returned (.bool (plnR r)) ∧ w' = W) := plain20_any
  have HHi : Hid (∀ r : Int, 128 ≤ r → plnR r = false) := fun r h => plnR_hi h
  have HSz : Hid (s.data.toList.length = s.size) := size20 s
  obtain ⟨E, hE⟩ : ∃ E, E = spn plnR s.data.toList := ⟨_, rfl⟩
  rw [← hE]
  have HE0 : Hid (0 + spn plnR (s.data.toList.drop 0) = E) := by show _ = _; rw [hE]; simp
  obtain ⟨N, hN⟩ : ∃ N, N = w.heap.size := ⟨_, rfl⟩
  have HN : Hid (N = w.heap.size) := hN
  have HB0 : Hid (Below w.heap.size w (w.iter s 0)) := (Below.refl _ _).alloc (Nat.le_refl _) _
  rw [← hN] at HB0 ⊢
  clear hE
  go_enter Tryd.func62, Tryd.ntmps62
  go_wp2
  rw [← hN]
  clear hN
  go_loopg [] s.size (fun g wr => ∃ p : Nat, p + g = s.size ∧ Hid (p + spn plnR (s.data.toList.drop p) = E) ∧ wr.heap[N]? = some (.stringIter s p) ∧ Hid (Below N w wr))
  case atStart => exact ⟨0, by omega, HE0.out, by rw [HN.out]; exact World.iter_heap _ _ _, HB0.out⟩
  case round =>
    obtain ⟨p, hg, HE, hit, HB⟩ := hrel
    have HG : Hid (p + gk = s.size) := hg
    clear HE0 HB0
    by_cases hp : p < s.size
    · have HD : Hid (s.data.toList.drop p = s[p] :: s.data.toList.drop (p + 1)) := drop20 hp
      rw [HD.out] at HE
      by_cases hb : (s[p]'hp).toNat < 128
      · have hnx : ∀ ty, (Instr.next (.pointer (some ⟨N, 0, none⟩)) true ty).run Tryd.prog wr = .ok (.tuple #[.bool true, .int .i64 p, .int .i32 (s[p]'hp).toNat]) (wr.iterAt N s (p + 1)) := fun ty => Lib.run_next_ascii_at wr N s p ty hit hp hb
        have hit2 := Lib.iterAt_heap wr N s p (p + 1) hit
        have HB2 : Hid (Below N w (wr.iterAt N s (p + 1))) := HB.out.trans ⟨rfl, rfl, rfl, by rw [Lib.iterAt_size]; exact Nat.le_refl _, fun j hj => Lib.iterAt_other _ _ _ _ _ (by omega)⟩
        have HY : Hid (plnR (s[p]'hp).toNat = true → p + 1 + spn plnR (s.data.toList.drop (p + 1)) = E) := fun h => by have := HE.out; rw [spn_yes h] at this; omega
        have HNo : Hid (plnR (s[p]'hp).toNat = false → p = E) := fun h => by have := HE.out; rw [spn_no h] at this; omega
        generalize wr.iterAt N s (p + 1) = w1 at *
        have HR : Hid (Calls Tryd.prog 61 #[.int .i32 (s[p]'hp).toNat] w1 fun e w' => e = .returned (.bool (plnR (s[p]'hp).toNat)) ∧ w' = w1) := HH.out _ _
        clear hit HD HE hb
        generalize ((s[p]'hp).toNat : Int) = z at *
        generalize plnR z = b at *
        cases b
        · have hpe : p = E := HNo.out rfl
          go_wp2_with (go_at_call 61; refine HR.out.mono ?_; rintro e w2 ⟨rfl, rfl⟩)
          go_ret
          exact ⟨rfl, HB2.out⟩
        · have HE2 : Hid (p + 1 + spn plnR (s.data.toList.drop (p + 1)) = E) := HY.out rfl
          go_wp2_with (go_at_call 61; refine HR.out.mono ?_; rintro e w2 ⟨rfl, rfl⟩)
          go_roundg (gk - 1)
          case measure => have := HG.out; omega
          case rel => exact ⟨p + 1, by have := HG.out; omega, HE2.out, hit2, HB2.out⟩
      · have hnx : ∀ ty, (Instr.next (.pointer (some ⟨N, 0, none⟩)) true ty).run Tryd.prog wr = .ok (.tuple #[.bool true, .int .i64 p, .int .i32 (Utf8.decode s p).1]) (wr.iterAt N s (p + (Utf8.decode s p).2)) := fun ty => Lib.run_next_any_at wr N s p ty hit hp
        have HB2 : Hid (Below N w (wr.iterAt N s (p + (Utf8.decode s p).2))) := HB.out.trans ⟨rfl, rfl, rfl, by rw [Lib.iterAt_size]; exact Nat.le_refl _, fun j hj => Lib.iterAt_other _ _ _ _ _ (by omega)⟩
        have hpe : p = E := by have := HE.out; rw [spn_no (HHi.out _ (by omega))] at this; omega
        have hf : plnR ((Utf8.decode s p).1 : Int) = false := HHi.out _ (by have := (decode_high s p hp (by omega)).1; omega)
        generalize wr.iterAt N s (p + (Utf8.decode s p).2) = w1 at *
        have HR : Hid (Calls Tryd.prog 61 #[.int .i32 (Utf8.decode s p).1] w1 fun e w' => e = .returned (.bool (plnR (Utf8.decode s p).1)) ∧ w' = w1) := HH.out _ _
        rw [hf] at HR
        clear hit HD HE hb hf
        generalize ((Utf8.decode s p).1 : Int) = z at *
        go_wp2_with (go_at_call 61; refine HR.out.mono ?_; rintro e w2 ⟨rfl, rfl⟩)
        go_ret
        exact ⟨rfl, HB2.out⟩
    · have hpe : p = s.size := by omega
      have hnx : ∀ ty, (Instr.next (.pointer (some ⟨N, 0, none⟩)) true ty).run Tryd.prog wr = .ok (.tuple #[.bool false]) wr := fun ty => Lib.run_next_end_at wr N s p ty hit hp
      have hEs : (s.size : Int) = E := by
        have := HE.out
        rw [List.drop_eq_nil_of_le (by rw [HSz.out]; omega)] at this
        simp [spn] at this
        omega
      clear HE
      go_wp2
      go_ret
      exact ⟨rfl, HB.out⟩
set_option maxHeartbeats 1600000 in
theorem all_plain (s : ByteArray) (w : World) : Calls Tryd.prog 58 #[.string s, .func (.func 61) #[] #[]] w fun e w' => e = .returned (.bool (allS plnR s)) ∧ Below w.heap.size w w' := by
  have HS : Hid (Calls Tryd.prog 62 #[.string s, .func (.func 61) #[] #[]] w fun e w' => e = .returned (.int .i64 (spn plnR s.data.toList)) ∧ Below w.heap.size w w') := span_plain s w
  have HA : Hid (allS plnR s = (!s.data.toList.isEmpty && (spn plnR s.data.toList == s.data.toList.length))) := rfl
  have HL := ByteArray.toList_eq s
  have HSz := size20 s
  by_cases h0 : s.data.toList = []
  · have h1 : s.toList.isEmpty = true := by rw [HL, h0]; rfl
    have hs0 : s = ⟨#[]⟩ := by cases s with | mk d => simp at h0; rw [h0]
    subst hs0
    clear HS
    go_enter Tryd.func58, Tryd.ntmps58
    go_wp2
    go_ret
    exact ⟨ret_bool (by rw [HA.out]; rfl), Below.refl _ _⟩
  · have h1 : s.toList.isEmpty = false := by rw [HL]; simpa using h0
    have h2 : s.data.toList.isEmpty = false := by simpa using h0
    rw [h2] at HA
    have hd : ¬ s.data = #[] := fun e => h0 (by rw [e])
    rw [HSz] at HA
    clear h0 h2 HSz
    generalize spn plnR s.data.toList = n at *
    have HA2 : Hid (allS plnR s = ((n : Int) == (s.size : Int))) := by
      show _ = _
      rw [HA.out, Bool.eq_iff_iff]; simp; omega
    clear HA
    cases hn : ((n : Int) == (s.size : Int))
    all_goals
      go_enter Tryd.func58, Tryd.ntmps58
      go_wp2_with (go_at_call 62; refine HS.out.mono ?_; rintro e w2 ⟨rfl, bel⟩; have HB : Hid (Below w.heap.size w w2) := bel; clear bel)
      go_ret
      exact ⟨ret_bool (by rw [HA2.out, hn]; try simpa using hd), HB.out⟩
set_option maxHeartbeats 1600000 in
theorem span_ups (s : ByteArray) (w : World) : Calls Tryd.prog 62 #[.string s, .func (.func 63) #[] #[]] w fun e w' => e = .returned (.int .i64 (spn upsR s.data.toList)) ∧ Below w.heap.size w w' := by
  have HH : Hid (∀ (r : Int) (W : World), Calls Tryd.prog 63 #[.int .i32 r] W fun e w' => e = .returned (.bool (upsR r)) ∧ w' = W) := ups20_any
  have HHi : Hid (∀ r : Int, 128 ≤ r → upsR r = false) := fun r h => upsR_hi h
  have HSz : Hid (s.data.toList.length = s.size) := size20 s
  obtain ⟨E, hE⟩ : ∃ E, E = spn upsR s.data.toList := ⟨_, rfl⟩
  rw [← hE]
  have HE0 : Hid (0 + spn upsR (s.data.toList.drop 0) = E) := by show _ = _; rw [hE]; simp
  obtain ⟨N, hN⟩ : ∃ N, N = w.heap.size := ⟨_, rfl⟩
  have HN : Hid (N = w.heap.size) := hN
  have HB0 : Hid (Below w.heap.size w (w.iter s 0)) := (Below.refl _ _).alloc (Nat.le_refl _) _
  rw [← hN] at HB0 ⊢
  clear hE
  go_enter Tryd.func62, Tryd.ntmps62
  go_wp2
  rw [← hN]
  clear hN
  go_loopg [] s.size (fun g wr => ∃ p : Nat, p + g = s.size ∧ Hid (p + spn upsR (s.data.toList.drop p) = E) ∧ wr.heap[N]? = some (.stringIter s p) ∧ Hid (Below N w wr))
  case atStart => exact ⟨0, by omega, HE0.out, by rw [HN.out]; exact World.iter_heap _ _ _, HB0.out⟩
  case round =>
    obtain ⟨p, hg, HE, hit, HB⟩ := hrel
    have HG : Hid (p + gk = s.size) := hg
    clear HE0 HB0
    by_cases hp : p < s.size
    · have HD : Hid (s.data.toList.drop p = s[p] :: s.data.toList.drop (p + 1)) := drop20 hp
      rw [HD.out] at HE
      by_cases hb : (s[p]'hp).toNat < 128
      · have hnx : ∀ ty, (Instr.next (.pointer (some ⟨N, 0, none⟩)) true ty).run Tryd.prog wr = .ok (.tuple #[.bool true, .int .i64 p, .int .i32 (s[p]'hp).toNat]) (wr.iterAt N s (p + 1)) := fun ty => Lib.run_next_ascii_at wr N s p ty hit hp hb
        have hit2 := Lib.iterAt_heap wr N s p (p + 1) hit
        have HB2 : Hid (Below N w (wr.iterAt N s (p + 1))) := HB.out.trans ⟨rfl, rfl, rfl, by rw [Lib.iterAt_size]; exact Nat.le_refl _, fun j hj => Lib.iterAt_other _ _ _ _ _ (by omega)⟩
        have HY : Hid (upsR (s[p]'hp).toNat = true → p + 1 + spn upsR (s.data.toList.drop (p + 1)) = E) := fun h => by have := HE.out; rw [spn_yes h] at this; omega
        have HNo : Hid (upsR (s[p]'hp).toNat = false → p = E) := fun h => by have := HE.out; rw [spn_no h] at this; omega
        generalize wr.iterAt N s (p + 1) = w1 at *
        have HR : Hid (Calls Tryd.prog 63 #[.int .i32 (s[p]'hp).toNat] w1 fun e w' => e = .returned (.bool (upsR (s[p]'hp).toNat)) ∧ w' = w1) := HH.out _ _
        clear hit HD HE hb
        generalize ((s[p]'hp).toNat : Int) = z at *
        generalize upsR z = b at *
        cases b
        · have hpe : p = E := HNo.out rfl
          go_wp2_with (go_at_call 63; refine HR.out.mono ?_; rintro e w2 ⟨rfl, rfl⟩)
          go_ret
          exact ⟨rfl, HB2.out⟩
        · have HE2 : Hid (p + 1 + spn upsR (s.data.toList.drop (p + 1)) = E) := HY.out rfl
          go_wp2_with (go_at_call 63; refine HR.out.mono ?_; rintro e w2 ⟨rfl, rfl⟩)
          go_roundg (gk - 1)
          case measure => have := HG.out; omega
          case rel => exact ⟨p + 1, by have := HG.out; omega, HE2.out, hit2, HB2.out⟩
      · have hnx : ∀ ty, (Instr.next (.pointer (some ⟨N, 0, none⟩)) true ty).run Tryd.prog wr = .ok (.tuple #[.bool true, .int .i64 p, .int .i32 (Utf8.decode s p).1]) (wr.iterAt N s (p + (Utf8.decode s p).2)) := fun ty => Lib.run_next_any_at wr N s p ty hit hp
        have HB2 : Hid (Below N w (wr.iterAt N s (p + (Utf8.decode s p).2))) := HB.out.trans ⟨rfl, rfl, rfl, by rw [Lib.iterAt_size]; exact Nat.le_refl _, fun j hj => Lib.iterAt_other _ _ _ _ _ (by omega)⟩
        have hpe : p = E := by have := HE.out; rw [spn_no (HHi.out _ (by omega))] at this; omega
        have hf : upsR ((Utf8.decode s p).1 : Int) = false := HHi.out _ (by have := (decode_high s p hp (by omega)).1; omega)
        generalize wr.iterAt N s (p + (Utf8.decode s p).2) = w1 at *
        have HR : Hid (Calls Tryd.prog 63 #[.int .i32 (Utf8.decode s p).1] w1 fun e w' => e = .returned (.bool (upsR (Utf8.decode s p).1)) ∧ w' = w1) := HH.out _ _
        rw [hf] at HR
        clear hit HD HE hb hf
        generalize ((Utf8.decode s p).1 : Int) = z at *
        go_wp2_with (go_at_call 63; refine HR.out.mono ?_; rintro e w2 ⟨rfl, rfl⟩)
        go_ret
        exact ⟨rfl, HB2.out⟩
    · have hpe : p = s.size := by omega
      have hnx : ∀ ty, (Instr.next (.pointer (some ⟨N, 0, none⟩)) true ty).run Tryd.prog wr = .ok (.tuple #[.bool false]) wr := fun ty => Lib.run_next_end_at wr N s p ty hit hp
      have hEs : (s.size : Int) = E := by
        have := HE.out
        rw [List.drop_eq_nil_of_le (by rw [HSz.out]; omega)] at this
        simp [spn] at this
        omega
      clear HE
      go_wp2
      go_ret
      exact ⟨rfl, HB.out⟩
set_option maxHeartbeats 1600000 in
theorem all_ups (s : ByteArray) (w : World) : Calls Tryd.prog 58 #[.string s, .func (.func 63) #[] #[]] w fun e w' => e = .returned (.bool (allS upsR s)) ∧ Below w.heap.size w w' := by
  have HS : Hid (Calls Tryd.prog 62 #[.string s, .func (.func 63) #[] #[]] w fun e w' => e = .returned (.int .i64 (spn upsR s.data.toList)) ∧ Below w.heap.size w w') := span_ups s w
  have HA : Hid (allS upsR s = (!s.data.toList.isEmpty && (spn upsR s.data.toList == s.data.toList.length))) := rfl
  have HL := ByteArray.toList_eq s
  have HSz := size20 s
  by_cases h0 : s.data.toList = []
  · have h1 : s.toList.isEmpty = true := by rw [HL, h0]; rfl
    have hs0 : s = ⟨#[]⟩ := by cases s with | mk d => simp at h0; rw [h0]
    subst hs0
    clear HS
    go_enter Tryd.func58, Tryd.ntmps58
    go_wp2
    go_ret
    exact ⟨ret_bool (by rw [HA.out]; rfl), Below.refl _ _⟩
  · have h1 : s.toList.isEmpty = false := by rw [HL]; simpa using h0
    have h2 : s.data.toList.isEmpty = false := by simpa using h0
    rw [h2] at HA
    have hd : ¬ s.data = #[] := fun e => h0 (by rw [e])
    rw [HSz] at HA
    clear h0 h2 HSz
    generalize spn upsR s.data.toList = n at *
    have HA2 : Hid (allS upsR s = ((n : Int) == (s.size : Int))) := by
      show _ = _
      rw [HA.out, Bool.eq_iff_iff]; simp; omega
    clear HA
    cases hn : ((n : Int) == (s.size : Int))
    all_goals
      go_enter Tryd.func58, Tryd.ntmps58
      go_wp2_with (go_at_call 62; refine HS.out.mono ?_; rintro e w2 ⟨rfl, bel⟩; have HB : Hid (Below w.heap.size w w2) := bel; clear bel)
      go_ret
      exact ⟨ret_bool (by rw [HA2.out, hn]; try simpa using hd), HB.out⟩

end Go.Proofs.YtmfcaoacklbkoaaDoor
