/-
  control: alike, folded, isName, strings.Split at a line feed, strings.Cut at a byte, walked.
  KEEP: len below nil form rd mono on app start at new trans refl kept own row out grown rdz set one more lt size cell some none letL tail next step go add put del get look no yes e c f b k n m box Ltr
-/
import Derived.Test.YtblkhkfjaggnfaaDoorCvA
import Derived.Test.YtblkhkfjaggnfaaDoorCtN
set_option linter.unusedSimpArgs false
set_option linter.unusedVariables false
namespace Go.Proofs.YtblkhkfjaggnfaaDoor
open Go Go.RowKit

set_option maxHeartbeats 1600000 in
theorem isName21 (s : ByteArray) (w : World) (hs : s.size ≤ 281474976710656) :
    Calls Tryd.prog 21 #[.string s] w fun e w' => e = .returned (.bool (nameF s.data.toList)) ∧ Below w.heap.size w w' := by
  have HSz : Hid (s.data.toList.length = s.size) := size20 s
  obtain ⟨E, hE⟩ : ∃ E, E = nameF s.data.toList := ⟨_, rfl⟩
  rw [← hE]
  have HE0 : Hid (nmR 0 (s.data.toList.drop 0) = E) := by show _ = _; rw [hE]; rfl
  obtain ⟨N, hN⟩ : ∃ N, N = w.heap.size := ⟨_, rfl⟩
  have HN : Hid (N = w.heap.size) := hN
  have HB0 : Hid (Below w.heap.size w (w.iter s 0)) := (Below.refl _ _).alloc (Nat.le_refl _) _
  rw [← hN] at HB0 ⊢
  clear hE
  go_enter Tryd.func21, Tryd.ntmps21
  go_wp2
  rw [← hN]
  clear hN
  go_loopg [3, 4] s.size (fun g a r wr => ∃ p : Nat, p + g = s.size ∧ Hid (nmR p (s.data.toList.drop p) = E) ∧ wr.heap[N]? = some (.stringIter s p) ∧ Hid (Below N w wr))
  case atStart => exact ⟨0, by omega, HE0.out, by rw [HN.out]; exact World.iter_heap _ _ _, HB0.out⟩
  case round =>
    obtain ⟨p, hg, HE, hit, HB⟩ := hrel
    have HG : Hid (p + gk = s.size) := hg
    clear HE0 HB0
    by_cases hp : p < s.size
    · have HD : Hid (s.data.toList.drop p = s[p] :: s.data.toList.drop (p + 1)) := drop20 hp
      by_cases hb : (s[p]'hp).toNat < 128
      · have hnx : ∀ ty, (Instr.next (.pointer (some ⟨N, 0, none⟩)) true ty).run Tryd.prog wr = .ok (.tuple #[.bool true, .int .i64 p, .int .i32 (s[p]'hp).toNat]) (wr.iterAt N s (p + 1)) := fun ty => Lib.run_next_ascii_at wr N s p ty hit hp hb
        have hit2 := Lib.iterAt_heap wr N s p (p + 1) hit
        have HB2 : Hid (Below N w (wr.iterAt N s (p + 1))) := HB.out.trans ⟨rfl, rfl, rfl, by rw [Lib.iterAt_size]; exact Nat.le_refl _, fun j hj => Lib.iterAt_other _ _ _ _ _ (by omega)⟩
        rw [HD.out] at HE
        generalize wr.iterAt N s (p + 1) = w1 at *
        have HX : Hid (nmB (s[p]'hp).toNat = true → (p = 0 → (((s[p]'hp).toNat : Int) != 35 && ((s[p]'hp).toNat : Int) != 45) = true) → nmR (p + 1) (s.data.toList.drop (p + 1)) = E) := fun h h2 => by
          have := HE.out
          by_cases h0 : p = 0
          · subst h0
            rw [nmR_low0, h, h2 rfl] at this
            simpa [nmR] using this
          · rwa [nmR_low h0 _ _ (p + 1) (by omega), h, Bool.true_and] at this
        have HY : Hid (nmB (s[p]'hp).toNat = false → false = E) := fun h => by
          have := HE.out
          by_cases h0 : p = 0
          · subst h0
            rw [nmR_low0, h] at this
            simpa using this
          · rwa [nmR_low h0 _ _ (p + 1) (by omega), h, Bool.false_and] at this
        have HZ : Hid (p = 0 → (((s[p]'hp).toNat : Int) != 35 && ((s[p]'hp).toNat : Int) != 45) = false → false = E) := fun h0 h => by
          have := HE.out
          subst h0
          rw [nmR_low0, h] at this
          simpa using this
        clear hit HD HE HB hg
        obtain ⟨z, hz⟩ : ∃ z : Int, z = (((s[p]'hp).toNat : Nat) : Int) := ⟨_, rfl⟩
        have h128 : z < 128 := by omega
        have h00 : 0 ≤ z := by omega
        rw [← hz] at HX HY HZ hnx
        have HU : Hid (nmB z = !(decide (z < 33) || decide (126 < z) || z == 58)) := rfl
        clear hz hb
        by_cases c1 : z ≤ 32
        · have HE : Hid (false = E) := HY.out (by rw [HU.out, decide_eq_true (show z < 33 by omega)]; rfl)
          clear HX HY HZ HU
          go_wp2
          go_ret
          exact ⟨ret_bool HE.out, HB2.out⟩
        by_cases c2 : 126 < z
        · have HE : Hid (false = E) := HY.out (by rw [HU.out, decide_eq_true c2]; simp)
          clear HX HY HZ HU
          go_wp2
          go_ret
          exact ⟨ret_bool HE.out, HB2.out⟩
        by_cases c3 : z = 58
        · subst c3
          have HE : Hid (false = E) := HY.out rfl
          clear HX HY HZ HU c1 c2
          go_wp2
          go_ret
          exact ⟨ret_bool HE.out, HB2.out⟩
        have c3b : (z == 58) = false := beq_eq_false_iff_ne.2 c3
        have hU : nmB z = true := by rw [HU.out, decide_eq_false (show ¬ z < 33 by omega), decide_eq_false c2, c3b]; rfl
        by_cases h0 : p = 0
        · have h0b : ((p : Int) == 0) = true := by simp [h0]
          by_cases c4 : z = 35
          · subst c4
            have HE : Hid (false = E) := HZ.out h0 rfl
            clear HX HY HZ HU c1 c2 hU c3 h0
            go_wp2
            go_ret
            exact ⟨ret_bool HE.out, HB2.out⟩
          by_cases c5 : z = 45
          · subst c5
            have HE : Hid (false = E) := HZ.out h0 rfl
            clear HX HY HZ HU c1 c2 hU c3 h0 c4
            go_wp2
            go_ret
            exact ⟨ret_bool HE.out, HB2.out⟩
          have c4b : (z == 35) = false := beq_eq_false_iff_ne.2 c4
          have c5b : (z == 45) = false := beq_eq_false_iff_ne.2 c5
          have HE : Hid (nmR (p + 1) (s.data.toList.drop (p + 1)) = E) := HX.out hU (fun _ => by rw [bne, bne, c4b, c5b]; rfl)
          clear HX HY HZ HU hU c3 h0 c4 c5
          go_wp2
          go_roundg (gk - 1)
          case measure => have := HG.out; omega
          case rel => exact ⟨p + 1, by have := HG.out; omega, HE.out, hit2, HB2.out⟩
        · have h0b : ((p : Int) == 0) = false := beq_eq_false_iff_ne.2 (by omega)
          have HE : Hid (nmR (p + 1) (s.data.toList.drop (p + 1)) = E) := HX.out hU (fun h => absurd h h0)
          clear HX HY HZ HU hU c3 h0
          go_wp2
          go_roundg (gk - 1)
          case measure => have := HG.out; omega
          case rel => exact ⟨p + 1, by have := HG.out; omega, HE.out, hit2, HB2.out⟩
      · have hnx : ∀ ty, (Instr.next (.pointer (some ⟨N, 0, none⟩)) true ty).run Tryd.prog wr = .ok (.tuple #[.bool true, .int .i64 p, .int .i32 (Utf8.decode s p).1]) (wr.iterAt N s (p + (Utf8.decode s p).2)) := fun ty => Lib.run_next_any_at wr N s p ty hit hp
        have HB2 : Hid (Below N w (wr.iterAt N s (p + (Utf8.decode s p).2))) := HB.out.trans ⟨rfl, rfl, rfl, by rw [Lib.iterAt_size]; exact Nat.le_refl _, fun j hj => Lib.iterAt_other _ _ _ _ _ (by omega)⟩
        have hhi : 128 ≤ (Utf8.decode s p).1 := (decode_high s p hp (by omega)).1
        generalize wr.iterAt N s (p + (Utf8.decode s p).2) = w1 at *
        have HE2 : Hid (false = E) := by show _ = _; rw [← HE.out, HD.out, nmR_hi (by omega)]
        obtain ⟨z, hz⟩ : ∃ z : Int, z = (((Utf8.decode s p).1 : Nat) : Int) := ⟨_, rfl⟩
        have h128 : 126 < z := by omega
        have c1 : ¬ z ≤ 32 := by omega
        rw [← hz] at hnx
        clear hit HD HE HB hb hg hz hhi
        go_wp2
        go_ret
        exact ⟨ret_bool HE2.out, HB2.out⟩
    · have hnx : ∀ ty, (Instr.next (.pointer (some ⟨N, 0, none⟩)) true ty).run Tryd.prog wr = .ok (.tuple #[.bool false]) wr := fun ty => Lib.run_next_end_at wr N s p ty hit hp
      have hd : s.data.toList.drop p = [] := List.drop_eq_nil_of_le (by rw [HSz.out]; omega)
      by_cases h0 : s.size = 0
      · have hl0 : s.data.toList = [] := List.eq_nil_of_length_eq_zero (by rw [HSz.out]; exact h0)
        have hs0 : s = ⟨#[]⟩ := ba_eq hl0
        have HE2 : Hid (false = E) := by
          show _ = _
          rw [← HE.out, hd, show p = 0 by omega]; rfl
        subst hs0
        clear HE hd hg h0
        go_wp2
        go_ret
        exact ⟨ret_bool HE2.out, HB.out⟩
      · have hne : ¬ s.toList = [] := fun e => h0 (by rw [ByteArray.toList_eq] at e; have := HSz.out; rw [e] at this; simpa using this.symm)
        have hnd : ¬ s.data = #[] := fun e => h0 (by have := HSz.out; rw [e] at this; simpa using this.symm)
        have h1 : s.toList.isEmpty = false := by simpa using hne
        have HE2 : Hid (true = E) := by
          show _ = _
          rw [← HE.out, hd]
          simp [nmR, show p ≠ 0 by omega]
        clear HE hd hg h0
        go_wp2
        go_ret
        refine ⟨ret_bool (by rw [← HE2.out]; try simp [hnd, hne, h1]), HB.out⟩

end Go.Proofs.YtblkhkfjaggnfaaDoor
