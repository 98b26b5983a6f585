/-
  control: alike, folded, isName, strings.Split at a line feed, strings.Cut at a byte, walked.
  KEEP: len below nil form rd mono on app start at new trans refl kept own row out grown rdz set one more lt size cell some none letL tail next step go add put del get look no yes e c f b k n m box Ltr
-/
import Derived.Test.YtbeaoekbppdlmaaDoorKCvA
import Derived.Test.YtbeaoekbppdlmaaDoorJCtA
set_option linter.unusedSimpArgs false
set_option linter.unusedVariables false
namespace Go.Proofs.YtbeaoekbppdlmaaDoor
open Go Go.RowKit

set_option maxHeartbeats 3200000 in
set_option maxRecDepth 100000 in
theorem alike21 (s t : ByteArray) (w : World) (hs : s.size ≤ 281474976710656) :
    Calls Tryd.prog 27 #[.string s, .string t] w fun e w' => e = .returned (.bool (alkF s.data.toList t.data.toList)) ∧ Below w.heap.size w w' := by
  have HSz : Hid (s.data.toList.length = s.size) := size20 s
  have HTz : Hid (t.data.toList.length = t.size) := size20 t
  obtain ⟨F, hF⟩ : ∃ F, F = alkF s.data.toList t.data.toList := ⟨_, rfl⟩
  rw [← hF]
  by_cases hlen : s.size = t.size
  case neg =>
    have HE : Hid (F = false) := by show _ = _; rw [hF]; exact alkF_len (by rw [HSz.out, HTz.out]; exact hlen)
    have hn : ((s.size : Int) == (t.size : Int)) = false := by simp; omega
    have hn2 : ((s.size : Int) != (t.size : Int)) = true := by simp; omega
    clear hF
    go_enter Tryd.func27, Tryd.ntmps27
    go_wp2
    go_ret
    exact ⟨ret_bool HE.out.symm, Below.refl _ _⟩
  have HA : Hid (F = alkF (s.data.toList.drop 0) (t.data.toList.drop 0)) := hF
  have hn : ((s.size : Int) == (t.size : Int)) = true := by simp; omega
  have hn2 : ((s.size : Int) != (t.size : Int)) = false := by simp; omega
  have HLen : Hid (s.size = t.size) := hlen
  clear hF hlen
  go_enter Tryd.func27, Tryd.ntmps27
  go_wp2
  go_loopg [5, 13] s.size (fun g x i wr => ∃ k : Nat, k + g = s.size ∧ i = .int .i64 k ∧ Hid (F = alkF (s.data.toList.drop k) (t.data.toList.drop k)) ∧ Hid (Below w.heap.size w wr))
  case atStart => exact ⟨0, by omega, rfl, HA.out, Below.refl _ _⟩
  case round =>
    obtain ⟨k, hk, rfl, HK, HB⟩ := hrel
    have HG : Hid (k + gk = s.size) := hk
    clear HA
    by_cases hlt : k < s.size
    · have hlt2 : k < t.size := by have := HLen.out; omega
      have hd := drop20 hlt
      have hd2 := drop20 hlt2
      have hX : F = ((lowZ (s[k]'hlt).toNat == lowZ (t[k]'hlt2).toNat) && alkF (s.data.toList.drop (k + 1)) (t.data.toList.drop (k + 1))) := by rw [HK.out, hd, hd2]; rfl
      have hr1 : 0 ≤ (((s[k]'hlt).toNat : Nat) : Int) ∧ (((s[k]'hlt).toNat : Nat) : Int) < 256 := ⟨by omega, by have := (s[k]'hlt).toNat_lt; omega⟩
      have hr2 : 0 ≤ (((t[k]'hlt2).toNat : Nat) : Int) ∧ (((t[k]'hlt2).toNat : Nat) : Int) < 256 := ⟨by omega, by have := (t[k]'hlt2).toNat_lt; omega⟩
      clear hd hd2 HK hk
      obtain ⟨x, hx⟩ : ∃ x : Int, x = (((s[k]'hlt).toNat : Nat) : Int) := ⟨_, rfl⟩
      obtain ⟨y, hy⟩ : ∃ y : Int, y = (((t[k]'hlt2).toNat : Nat) : Int) := ⟨_, rfl⟩
      have hxx : (((s[k]'hlt).toNat : Nat) : Int) = x := hx.symm
      have hyy : (((t[k]'hlt2).toNat : Nat) : Int) = y := hy.symm
      rw [← hx, ← hy] at hX
      rw [← hx] at hr1
      rw [← hy] at hr2
      have HX : Hid (F = ((lowZ x == lowZ y) && alkF (s.data.toList.drop (k + 1)) (t.data.toList.drop (k + 1)))) := hX
      have HMx : Hid (∀ W, Calls Tryd.prog 41 #[.int .u8 x] W fun e w' => e = .returned (.int .u8 (lowZ x)) ∧ w' = W) := fun W => small21 x W hr1.1 hr1.2
      have HMy : Hid (∀ W, Calls Tryd.prog 41 #[.int .u8 y] W fun e w' => e = .returned (.int .u8 (lowZ y)) ∧ w' = W) := fun W => small21 y W hr2.1 hr2.2
      clear hx hy hX
      generalize lowZ x = lx at *
      generalize lowZ y = ly at *
      go_wp2_with fail
      go_quiet ((go_at_call 41; first | (with_reducible exact Calls.quiet_of_same (HMx.out _)) | (with_reducible exact Calls.quiet_of_same (HMy.out _))))
      have HBq : Hid (Below w.heap.size w (wr.drewN nq)) := HB.out.trans ⟨rfl, rfl, rfl, Nat.le_refl _, fun _ _ => rfl⟩
      generalize wr.drewN nq = wq at *
      clear HB hxx hyy
      by_cases hq : lx = ly
      · have q1 : (lx != ly) = false := by simpa using hq
        have HE : Hid (F = alkF (s.data.toList.drop (k + 1)) (t.data.toList.drop (k + 1))) := by show _ = _; rw [HX.out, hq]; simp
        clear HX hq
        go_wp2
        go_roundg (gk - 1)
        case measure => have := HG.out; omega
        case rel => exact ⟨k + 1, by have := HG.out; omega, by go_num, HE.out, HBq.out⟩
      · have q1 : (lx != ly) = true := by simpa using hq
        have HE : Hid (F = false) := by show _ = _; rw [HX.out, beq_eq_false_iff_ne.2 hq]; rfl
        clear HX hq
        go_wp2
        go_ret
        exact ⟨ret_bool HE.out.symm, HBq.out⟩
    · have HE : Hid (F = true) := by show _ = _; rw [HK.out, List.drop_eq_nil_of_le (by rw [HSz.out]; omega), List.drop_eq_nil_of_le (by rw [HTz.out, ← HLen.out]; omega)]; rfl
      clear HK hk
      go_wp2
      go_ret
      exact ⟨ret_bool HE.out.symm, HB.out⟩

set_option maxHeartbeats 1600000 in
theorem isName21 (s : ByteArray) (w : World) (hs : s.size ≤ 281474976710656) :
    Calls Tryd.prog 24 #[.string s] w fun e w' => e = .returned (.bool (nameF s.data.toList)) ∧ Below w.heap.size w w' := by
  have HSz : Hid (s.data.toList.length = s.size) := size20 s
  obtain ⟨E, hE⟩ : ∃ E, E = nameF s.data.toList := ⟨_, rfl⟩
  rw [← hE]
  have HE0 : Hid (nmR 0 (s.data.toList.drop 0) = E) := by show _ = _; rw [hE]; rfl
  obtain ⟨N, hN⟩ : ∃ N, N = w.heap.size := ⟨_, rfl⟩
  have HN : Hid (N = w.heap.size) := hN
  have HB0 : Hid (Below w.heap.size w (w.iter s 0)) := (Below.refl _ _).alloc (Nat.le_refl _) _
  rw [← hN] at HB0 ⊢
  clear hE
  go_enter Tryd.func24, Tryd.ntmps24
  go_wp2
  rw [← hN]
  clear hN
  go_loopg [3, 4] s.size (fun g a r wr => ∃ p : Nat, p + g = s.size ∧ Hid (nmR p (s.data.toList.drop p) = E) ∧ wr.heap[N]? = some (.stringIter s p) ∧ Hid (Below N w wr))
  case atStart => exact ⟨0, by omega, HE0.out, by rw [HN.out]; exact World.iter_heap _ _ _, HB0.out⟩
  case round =>
    obtain ⟨p, hg, HE, hit, HB⟩ := hrel
    have HG : Hid (p + gk = s.size) := hg
    clear HE0 HB0
    by_cases hp : p < s.size
    · have HD : Hid (s.data.toList.drop p = s[p] :: s.data.toList.drop (p + 1)) := drop20 hp
      by_cases hb : (s[p]'hp).toNat < 128
      · have hnx : ∀ ty, (Instr.next (.pointer (some ⟨N, 0, none⟩)) true ty).run Tryd.prog wr = .ok (.tuple #[.bool true, .int .i64 p, .int .i32 (s[p]'hp).toNat]) (wr.iterAt N s (p + 1)) := fun ty => Lib.run_next_ascii_at wr N s p ty hit hp hb
        have hit2 := Lib.iterAt_heap wr N s p (p + 1) hit
        have HB2 : Hid (Below N w (wr.iterAt N s (p + 1))) := HB.out.trans ⟨rfl, rfl, rfl, by rw [Lib.iterAt_size]; exact Nat.le_refl _, fun j hj => Lib.iterAt_other _ _ _ _ _ (by omega)⟩
        rw [HD.out] at HE
        generalize wr.iterAt N s (p + 1) = w1 at *
        have HX : Hid (nmB (s[p]'hp).toNat = true → (p = 0 → (((s[p]'hp).toNat : Int) != 35 && ((s[p]'hp).toNat : Int) != 45) = true) → nmR (p + 1) (s.data.toList.drop (p + 1)) = E) := fun h h2 => by
          have := HE.out
          by_cases h0 : p = 0
          · subst h0
            rw [nmR_low0, h, h2 rfl] at this
            simpa [nmR] using this
          · rwa [nmR_low h0 _ _ (p + 1) (by omega), h, Bool.true_and] at this
        have HY : Hid (nmB (s[p]'hp).toNat = false → false = E) := fun h => by
          have := HE.out
          by_cases h0 : p = 0
          · subst h0
            rw [nmR_low0, h] at this
            simpa using this
          · rwa [nmR_low h0 _ _ (p + 1) (by omega), h, Bool.false_and] at this
        have HZ : Hid (p = 0 → (((s[p]'hp).toNat : Int) != 35 && ((s[p]'hp).toNat : Int) != 45) = false → false = E) := fun h0 h => by
          have := HE.out
          subst h0
          rw [nmR_low0, h] at this
          simpa using this
        clear hit HD HE HB hg
        obtain ⟨z, hz⟩ : ∃ z : Int, z = (((s[p]'hp).toNat : Nat) : Int) := ⟨_, rfl⟩
        have h128 : z < 128 := by omega
        have h00 : 0 ≤ z := by omega
        rw [← hz] at HX HY HZ hnx
        have HU : Hid (nmB z = !(decide (z < 33) || decide (126 < z) || z == 58)) := rfl
        clear hz hb
        by_cases c1 : z ≤ 32
        · have HE : Hid (false = E) := HY.out (by rw [HU.out, decide_eq_true (show z < 33 by omega)]; rfl)
          clear HX HY HZ HU
          go_wp2
          go_ret
          exact ⟨ret_bool HE.out, HB2.out⟩
        by_cases c2 : 126 < z
        · have HE : Hid (false = E) := HY.out (by rw [HU.out, decide_eq_true c2]; simp)
          clear HX HY HZ HU
          go_wp2
          go_ret
          exact ⟨ret_bool HE.out, HB2.out⟩
        by_cases c3 : z = 58
        · subst c3
          have HE : Hid (false = E) := HY.out rfl
          clear HX HY HZ HU c1 c2
          go_wp2
          go_ret
          exact ⟨ret_bool HE.out, HB2.out⟩
        have c3b : (z == 58) = false := beq_eq_false_iff_ne.2 c3
        have hU : nmB z = true := by rw [HU.out, decide_eq_false (show ¬ z < 33 by omega), decide_eq_false c2, c3b]; rfl
        by_cases h0 : p = 0
        · have h0b : ((p : Int) == 0) = true := by simp [h0]
          by_cases c4 : z = 35
          · subst c4
            have HE : Hid (false = E) := HZ.out h0 rfl
            clear HX HY HZ HU c1 c2 hU c3 h0
            go_wp2
            go_ret
            exact ⟨ret_bool HE.out, HB2.out⟩
          by_cases c5 : z = 45
          · subst c5
            have HE : Hid (false = E) := HZ.out h0 rfl
            clear HX HY HZ HU c1 c2 hU c3 h0 c4
            go_wp2
            go_ret
            exact ⟨ret_bool HE.out, HB2.out⟩
          have c4b : (z == 35) = false := beq_eq_false_iff_ne.2 c4
          have c5b : (z == 45) = false := beq_eq_false_iff_ne.2 c5
          have HE : Hid (nmR (p + 1) (s.data.toList.drop (p + 1)) = E) := HX.out hU (fun _ => by rw [bne, bne, c4b, c5b]; rfl)
          clear HX HY HZ HU hU c3 h0 c4 c5
          go_wp2
          go_roundg (gk - 1)
          case measure => have := HG.out; omega
          case rel => exact ⟨p + 1, by have := HG.out; omega, HE.out, hit2, HB2.out⟩
        · have h0b : ((p : Int) == 0) = false := beq_eq_false_iff_ne.2 (by omega)
          have HE : Hid (nmR (p + 1) (s.data.toList.drop (p + 1)) = E) := HX.out hU (fun h => absurd h h0)
          clear HX HY HZ HU hU c3 h0
          go_wp2
          go_roundg (gk - 1)
          case measure => have := HG.out; omega
          case rel => exact ⟨p + 1, by have := HG.out; omega, HE.out, hit2, HB2.out⟩
      · have hnx : ∀ ty, (Instr.next (.pointer (some ⟨N, 0, none⟩)) true ty).run Tryd.prog wr = .ok (.tuple #[.bool true, .int .i64 p, .int .i32 (Utf8.decode s p).1]) (wr.iterAt N s (p + (Utf8.decode s p).2)) := fun ty => Lib.run_next_any_at wr N s p ty hit hp
        have HB2 : Hid (Below N w (wr.iterAt N s (p + (Utf8.decode s p).2))) := HB.out.trans ⟨rfl, rfl, rfl, by rw [Lib.iterAt_size]; exact Nat.le_refl _, fun j hj => Lib.iterAt_other _ _ _ _ _ (by omega)⟩
        have hhi : 128 ≤ (Utf8.decode s p).1 := (decode_high s p hp (by omega)).1
        generalize wr.iterAt N s (p + (Utf8.decode s p).2) = w1 at *
        have HE2 : Hid (false = E) := by show _ = _; rw [← HE.out, HD.out, nmR_hi (by omega)]
        obtain ⟨z, hz⟩ : ∃ z : Int, z = (((Utf8.decode s p).1 : Nat) : Int) := ⟨_, rfl⟩
        have h128 : 126 < z := by omega
        have c1 : ¬ z ≤ 32 := by omega
        rw [← hz] at hnx
        clear hit HD HE HB hb hg hz hhi
        go_wp2
        go_ret
        exact ⟨ret_bool HE2.out, HB2.out⟩
    · have hnx : ∀ ty, (Instr.next (.pointer (some ⟨N, 0, none⟩)) true ty).run Tryd.prog wr = .ok (.tuple #[.bool false]) wr := fun ty => Lib.run_next_end_at wr N s p ty hit hp
      have hd : s.data.toList.drop p = [] := List.drop_eq_nil_of_le (by rw [HSz.out]; omega)
      by_cases h0 : s.size = 0
      · have hl0 : s.data.toList = [] := List.eq_nil_of_length_eq_zero (by rw [HSz.out]; exact h0)
        have hs0 : s = ⟨#[]⟩ := ba_eq hl0
        have HE2 : Hid (false = E) := by
          show _ = _
          rw [← HE.out, hd, show p = 0 by omega]; rfl
        subst hs0
        clear HE hd hg h0
        go_wp2
        go_ret
        exact ⟨ret_bool HE2.out, HB.out⟩
      · have hne : ¬ s.toList = [] := fun e => h0 (by rw [ByteArray.toList_eq] at e; have := HSz.out; rw [e] at this; simpa using this.symm)
        have hnd : ¬ s.data = #[] := fun e => h0 (by have := HSz.out; rw [e] at this; simpa using this.symm)
        have h1 : s.toList.isEmpty = false := by simpa using hne
        have HE2 : Hid (true = E) := by
          show _ = _
          rw [← HE.out, hd]
          simp [nmR, show p ≠ 0 by omega]
        clear HE hd hg h0
        go_wp2
        go_ret
        refine ⟨ret_bool (by rw [← HE2.out]; try simp [hnd, hne, h1]), HB.out⟩

end Go.Proofs.YtbeaoekbppdlmaaDoor
