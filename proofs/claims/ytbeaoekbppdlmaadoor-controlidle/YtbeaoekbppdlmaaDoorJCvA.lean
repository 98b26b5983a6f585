/-
  joined: CvA CvC CvG
-/
import Derived.Test.YtbeaoekbppdlmaaDoorKCvQ
import Derived.Test.YtbeaoekbppdlmaaDoorShelfR
import Derived.Test.YtbeaoekbppdlmaaDoorByT
import Derived.Deep.CutRange
import Derived.Deep.RegionHeld
import Derived.Lib.OthersKept
import Derived.Test.YtbeaoekbppdlmaaDoorJCtA
import Derived.Test.YtbeaoekbppdlmaaDoorKCtM
set_option linter.unusedSimpArgs false
set_option linter.unusedVariables false
namespace Go.Proofs.YtbeaoekbppdlmaaDoor
open Go Go.RowKit

theorem clone21 (s : ByteArray) (w : World) (hs : s.size ≤ 281474976710656) :
    Calls Tryd.prog 28 #[.string s] w fun e w' => e = .returned (.string s) ∧ Below w.heap.size w w' := by
  have HC : Hid (Calls Tryd.prog 42 #[.string s] w fun e w' => e = .returned (.string s) ∧ Below w.heap.size w w') := Tryd.stringslite_Clone s w hs
  go_enter Tryd.func28, Tryd.ntmps28
  go_wp2_with fail
  refine HC.out.mono ?_
  rintro e w1 ⟨rfl, bel⟩
  have HB : Hid (Below w.heap.size w w1) := bel
  go_wp2
  go_ret
  exact ⟨rfl, HB.out⟩

set_option maxHeartbeats 1600000 in
theorem trimmed21 (s : ByteArray) (w : World) (hs : s.size ≤ 281474976710656) :
    Calls Tryd.prog 40 #[.string s] w fun e w' => e = .returned (.string ⟨(trF s.data.toList).toArray⟩) ∧ Below w.heap.size w w' := by
  have h := Tryd.strings_Trim_laid s ⟨#[32, 9]⟩ w (by omega) (by decide) (fun j b hj => by
    match j, hj with
    | 0, hj => simp at hj; subst hj; decide
    | 1, hj => simp at hj; subst hj; decide)
  rw [show (⟨#[32, 9]⟩ : ByteArray).data.toList = [32, 9] from rfl, trimS_trF] at h
  have HC : Hid (Calls Tryd.prog 57 #[.string s, .string ⟨#[32, 9]⟩] w fun e w' => e = .returned (.string ⟨(trF s.data.toList).toArray⟩) ∧ Below w.heap.size w w') := h
  clear h
  generalize trF s.data.toList = T at *
  go_enter Tryd.func40, Tryd.ntmps40
  go_wp2_with fail
  refine HC.out.mono ?_
  rintro e w1 ⟨rfl, bel⟩
  have HB : Hid (Below w.heap.size w w1) := bel
  go_wp2
  go_ret
  exact ⟨rfl, HB.out⟩

set_option maxHeartbeats 1600000 in
theorem small21 (z : Int) (w : World) (h0 : 0 ≤ z) (h1 : z < 256) : Calls Tryd.prog 41 #[.int .u8 z] w fun e w' => e = .returned (.int .u8 (lowZ z)) ∧ w' = w := by
  by_cases c1 : 65 ≤ z
  · by_cases c2 : z ≤ 90
    · have e : lowZ z = z + 32 := by unfold lowZ; rw [if_pos ⟨c1, c2⟩]
      rw [e]
      clear e
      go_enter Tryd.func41, Tryd.ntmps41
      go_wp2
      go_ret
      refine ⟨?_, rfl⟩
      show Ending.returned (.int .u8 (z - 65 + 97)) = _
      congr 2; omega
    · have e : lowZ z = z := by unfold lowZ; rw [if_neg (fun h => c2 h.2)]
      rw [e]
      clear e
      go_enter Tryd.func41, Tryd.ntmps41
      go_wp2
      go_ret
      exact ⟨rfl, rfl⟩
  · have e : lowZ z = z := by unfold lowZ; rw [if_neg (fun h => c1 h.1)]
    rw [e]
    clear e
    go_enter Tryd.func41, Tryd.ntmps41
    go_wp2
    go_ret
    exact ⟨rfl, rfl⟩

set_option maxHeartbeats 1600000 in
theorem isFair21 (s : ByteArray) (w : World) (hs : s.size ≤ 281474976710656) :
    Calls Tryd.prog 39 #[.string s] w fun e w' => e = .returned (.bool (fairF false s.data.toList)) ∧ Below w.heap.size w w' := by
  have HSz : Hid (s.data.toList.length = s.size) := size20 s
  obtain ⟨E, hE⟩ : ∃ E, E = fairF false s.data.toList := ⟨_, rfl⟩
  rw [← hE]
  have HE0 : Hid (fairF false (s.data.toList.drop 0) = E) := by show _ = _; rw [hE]; rfl
  obtain ⟨N, hN⟩ : ∃ N, N = w.heap.size := ⟨_, rfl⟩
  have HN : Hid (N = w.heap.size) := hN
  have HB0 : Hid (Below w.heap.size w (w.iter s 0)) := (Below.refl _ _).alloc (Nat.le_refl _) _
  rw [← hN] at HB0 ⊢
  clear hE
  go_enter Tryd.func39, Tryd.ntmps39
  go_wp2
  rw [← hN]
  clear hN
  go_loopg [3, 4] s.size (fun g a r wr => ∃ p : Nat, p + g = s.size ∧ Hid (fairF false (s.data.toList.drop p) = E) ∧ wr.heap[N]? = some (.stringIter s p) ∧ Hid (Below N w wr))
  case atStart => exact ⟨0, by omega, HE0.out, by rw [HN.out]; exact World.iter_heap _ _ _, HB0.out⟩
  case round =>
    obtain ⟨p, hg, HE, hit, HB⟩ := hrel
    have HG : Hid (p + gk = s.size) := hg
    clear HE0 HB0
    by_cases hp : p < s.size
    · have HD : Hid (s.data.toList.drop p = s[p] :: s.data.toList.drop (p + 1)) := drop20 hp
      by_cases hb : (s[p]'hp).toNat < 128
      · have hnx : ∀ ty, (Instr.next (.pointer (some ⟨N, 0, none⟩)) true ty).run Tryd.prog wr = .ok (.tuple #[.bool true, .int .i64 p, .int .i32 (s[p]'hp).toNat]) (wr.iterAt N s (p + 1)) := fun ty => Lib.run_next_ascii_at wr N s p ty hit hp hb
        have hit2 := Lib.iterAt_heap wr N s p (p + 1) hit
        have HB2 : Hid (Below N w (wr.iterAt N s (p + 1))) := HB.out.trans ⟨rfl, rfl, rfl, by rw [Lib.iterAt_size]; exact Nat.le_refl _, fun j hj => Lib.iterAt_other _ _ _ _ _ (by omega)⟩
        rw [HD.out, fair_low hb] at HE
        generalize wr.iterAt N s (p + 1) = w1 at *
        have HX : Hid (frB false (s[p]'hp).toNat = true → fairF false (s.data.toList.drop (p + 1)) = E) := fun h => by have := HE.out; rw [h, Bool.true_and] at this; exact this
        have HY : Hid (frB false (s[p]'hp).toNat = false → false = E) := fun h => by have := HE.out; rw [h, Bool.false_and] at this; exact this
        clear hit HD HE HB hg
        obtain ⟨z, hz⟩ : ∃ z : Int, z = (((s[p]'hp).toNat : Nat) : Int) := ⟨_, rfl⟩
        have h128 : z < 128 := by omega
        have h00 : 0 ≤ z := by omega
        rw [← hz] at HX HY hnx
        clear hz hb
        by_cases c1 : z = 127
        · subst c1
          have HE : Hid (false = E) := HY.out rfl
          clear HX HY
          go_wp2
          go_ret
          exact ⟨ret_bool HE.out, HB2.out⟩
        have c1b : (z == 127) = false := beq_eq_false_iff_ne.2 c1
        by_cases c2 : z < 32
        · by_cases c3 : z = 9
          · subst c3
            have HE : Hid (fairF false (s.data.toList.drop (p + 1)) = E) := HX.out rfl
            clear HX HY
            go_wp2
            go_roundg (gk - 1)
            case measure => have := HG.out; omega
            case rel => exact ⟨p + 1, by have := HG.out; omega, HE.out, hit2, HB2.out⟩
          · have c3b : (z != 9) = true := bne_iff_ne.2 c3
            have HE : Hid (false = E) := HY.out (by unfold frB; rw [c1b, decide_eq_true c2, c3b]; simp)
            clear HX HY c3
            go_wp2
            go_ret
            exact ⟨ret_bool HE.out, HB2.out⟩
        · have c4 : (z == 65533) = false := beq_eq_false_iff_ne.2 (by omega)
          have HE : Hid (fairF false (s.data.toList.drop (p + 1)) = E) := HX.out (by unfold frB; rw [c1b, decide_eq_false c2]; rfl)
          clear HX HY c1
          go_wp2
          go_roundg (gk - 1)
          case measure => have := HG.out; omega
          case rel => exact ⟨p + 1, by have := HG.out; omega, HE.out, hit2, HB2.out⟩
      · have hnx : ∀ ty, (Instr.next (.pointer (some ⟨N, 0, none⟩)) true ty).run Tryd.prog wr = .ok (.tuple #[.bool true, .int .i64 p, .int .i32 (Utf8.decode s p).1]) (wr.iterAt N s (p + (Utf8.decode s p).2)) := fun ty => Lib.run_next_any_at wr N s p ty hit hp
        have hit2 := Lib.iterAt_heap wr N s p (p + (Utf8.decode s p).2) hit
        have HB2 : Hid (Below N w (wr.iterAt N s (p + (Utf8.decode s p).2))) := HB.out.trans ⟨rfl, rfl, rfl, by rw [Lib.iterAt_size]; exact Nat.le_refl _, fun j hj => Lib.iterAt_other _ _ _ _ _ (by omega)⟩
        have HL := dec_let s p hp (by omega)
        have hhi : 128 ≤ (Utf8.decode s p).1 := (decode_high s p hp (by omega)).1
        have hpl : (s.data.toList.drop p).length = s.size - p := by rw [List.length_drop, HSz.out]
        have HPf : ∀ W, Calls Tryd.prog 56 #[.string (s.extract p s.size), .string ⟨#[239, 191, 189]⟩] W fun e w' => e = .returned (.bool (([239, 191, 189] : List UInt8).isPrefixOf (s.data.toList.drop p))) ∧ w' = W := fun W => by
          have h := Tryd.strings_HasPrefix (s.extract p s.size) ⟨#[239, 191, 189]⟩ W
          unfold Lib.hasPrefix at h
          rwa [ext_list, List.take_of_length_le (by rw [hpl]; omega)] at h
        generalize wr.iterAt N s (p + (Utf8.decode s p).2) = w1 at *
        have HPre : Hid ((([239, 191, 189] : List UInt8).isPrefixOf (s.data.toList.drop p)) = true ↔ [239, 191, 189] <+: s.data.toList.drop p) := List.isPrefixOf_iff_prefix
        generalize ([239, 191, 189] : List UInt8).isPrefixOf (s.data.toList.drop p) = pf at *
        clear hit HD HB hb hg
        have hps : p ≤ s.size := by omega
        rcases HL with ⟨n, hn, hnl, hl1, hl2, hl3⟩ | ⟨hd, hbad, hnp⟩
        · rw [fair_ltr hl1 hl2, List.drop_drop] at HE
          rw [hn] at hit2
          have hnl2 : p + (n + 1) ≤ s.size := by omega
          have HE2 : Hid (fairF false (s.data.toList.drop (p + (n + 1))) = E) := HE
          have HNl : Hid (p + (n + 1) ≤ s.size) := hnl2
          have HIt : Hid (w1.heap[N]? = some (.stringIter s (p + (n + 1)))) := hit2
          clear HE hn hnl hl1 hl2 hpl hnl2 hit2
          obtain ⟨z, hz⟩ : ∃ z : Int, z = (((Utf8.decode s p).1 : Nat) : Int) := ⟨_, rfl⟩
          have h128 : 128 ≤ z := by omega
          by_cases hz9 : z = 65533
          · have hpf : pf = true := HPre.out.2 (hl3 (by omega))
            subst hpf
            rw [← hz] at hnx
            subst hz9
            have HP : Hid (∀ W, Calls Tryd.prog 56 #[.string (s.extract p s.size), .string ⟨#[239, 191, 189]⟩] W fun e w' => e = .returned (.bool true) ∧ w' = W) := HPf
            clear hz hhi hl3 HPf HPre
            go_wp2_with (go_at_call 56; refine (HP.out _).mono ?_; rintro e w2 ⟨rfl, rfl⟩)
            go_roundg (gk - (n + 1))
            case measure => have := HG.out; have := HNl.out; omega
            case rel => exact ⟨p + (n + 1), by have := HG.out; have := HNl.out; omega, HE2.out, HIt.out, HB2.out⟩
          · have c4 : (z == 65533) = false := beq_eq_false_iff_ne.2 hz9
            have c1b : (z == 127) = false := beq_eq_false_iff_ne.2 (by omega)
            have c2 : ¬ z < 32 := by omega
            rw [← hz] at hnx
            clear hz hhi hl3 HPf HPre hz9
            go_wp2
            go_roundg (gk - (n + 1))
            case measure => have := HG.out; have := HNl.out; omega
            case rel => exact ⟨p + (n + 1), by have := HG.out; have := HNl.out; omega, HE2.out, HIt.out, HB2.out⟩
        · have hpf : pf = false := by
            cases pf
            · rfl
            · exact absurd (HPre.out.1 rfl) hnp
          subst hpf
          have HE2 : Hid (false = E) := by show _ = _; rw [← HE.out, fair_bad hbad]
          rw [hd] at hnx hit2
          have hnx2 : ∀ ty, (Instr.next (.pointer (some ⟨N, 0, none⟩)) true ty).run Tryd.prog wr = .ok (.tuple #[.bool true, .int .i64 p, .int .i32 65533]) w1 := hnx
          have HP : Hid (∀ W, Calls Tryd.prog 56 #[.string (s.extract p s.size), .string ⟨#[239, 191, 189]⟩] W fun e w' => e = .returned (.bool false) ∧ w' = W) := HPf
          clear hnx hd hbad hnp HPf HPre hit2 HE hhi hpl
          go_wp2_with (go_at_call 56; refine (HP.out _).mono ?_; rintro e w2 ⟨rfl, rfl⟩)
          go_ret
          exact ⟨ret_bool HE2.out, HB2.out⟩
    · have hnx : ∀ ty, (Instr.next (.pointer (some ⟨N, 0, none⟩)) true ty).run Tryd.prog wr = .ok (.tuple #[.bool false]) wr := fun ty => Lib.run_next_end_at wr N s p ty hit hp
      have HE2 : Hid (true = E) := by
        show _ = _
        have := HE.out
        rw [List.drop_eq_nil_of_le (by rw [HSz.out]; omega)] at this
        rw [← this]; rfl
      clear HE
      go_wp2
      go_ret
      exact ⟨ret_bool HE2.out, HB.out⟩

end Go.Proofs.YtbeaoekbppdlmaaDoor
set_option linter.unusedSimpArgs false
set_option linter.unusedVariables false
namespace Go.Proofs.YtbeaoekbppdlmaaDoor
open Go Go.RowKit

set_option maxHeartbeats 3200000 in
set_option maxRecDepth 100000 in
theorem alike21 (s t : ByteArray) (w : World) (hs : s.size ≤ 281474976710656) :
    Calls Tryd.prog 27 #[.string s, .string t] w fun e w' => e = .returned (.bool (alkF s.data.toList t.data.toList)) ∧ Below w.heap.size w w' := by
  have HSz : Hid (s.data.toList.length = s.size) := size20 s
  have HTz : Hid (t.data.toList.length = t.size) := size20 t
  obtain ⟨F, hF⟩ : ∃ F, F = alkF s.data.toList t.data.toList := ⟨_, rfl⟩
  rw [← hF]
  by_cases hlen : s.size = t.size
  case neg =>
    have HE : Hid (F = false) := by show _ = _; rw [hF]; exact alkF_len (by rw [HSz.out, HTz.out]; exact hlen)
    have hn : ((s.size : Int) == (t.size : Int)) = false := by simp; omega
    have hn2 : ((s.size : Int) != (t.size : Int)) = true := by simp; omega
    clear hF
    go_enter Tryd.func27, Tryd.ntmps27
    go_wp2
    go_ret
    exact ⟨ret_bool HE.out.symm, Below.refl _ _⟩
  have HA : Hid (F = alkF (s.data.toList.drop 0) (t.data.toList.drop 0)) := hF
  have hn : ((s.size : Int) == (t.size : Int)) = true := by simp; omega
  have hn2 : ((s.size : Int) != (t.size : Int)) = false := by simp; omega
  have HLen : Hid (s.size = t.size) := hlen
  clear hF hlen
  go_enter Tryd.func27, Tryd.ntmps27
  go_wp2
  go_loopg [5, 13] s.size (fun g x i wr => ∃ k : Nat, k + g = s.size ∧ i = .int .i64 k ∧ Hid (F = alkF (s.data.toList.drop k) (t.data.toList.drop k)) ∧ Hid (Below w.heap.size w wr))
  case atStart => exact ⟨0, by omega, rfl, HA.out, Below.refl _ _⟩
  case round =>
    obtain ⟨k, hk, rfl, HK, HB⟩ := hrel
    have HG : Hid (k + gk = s.size) := hk
    clear HA
    by_cases hlt : k < s.size
    · have hlt2 : k < t.size := by have := HLen.out; omega
      have hd := drop20 hlt
      have hd2 := drop20 hlt2
      have hX : F = ((lowZ (s[k]'hlt).toNat == lowZ (t[k]'hlt2).toNat) && alkF (s.data.toList.drop (k + 1)) (t.data.toList.drop (k + 1))) := by rw [HK.out, hd, hd2]; rfl
      have hr1 : 0 ≤ (((s[k]'hlt).toNat : Nat) : Int) ∧ (((s[k]'hlt).toNat : Nat) : Int) < 256 := ⟨by omega, by have := (s[k]'hlt).toNat_lt; omega⟩
      have hr2 : 0 ≤ (((t[k]'hlt2).toNat : Nat) : Int) ∧ (((t[k]'hlt2).toNat : Nat) : Int) < 256 := ⟨by omega, by have := (t[k]'hlt2).toNat_lt; omega⟩
      clear hd hd2 HK hk
      obtain ⟨x, hx⟩ : ∃ x : Int, x = (((s[k]'hlt).toNat : Nat) : Int) := ⟨_, rfl⟩
      obtain ⟨y, hy⟩ : ∃ y : Int, y = (((t[k]'hlt2).toNat : Nat) : Int) := ⟨_, rfl⟩
      have hxx : (((s[k]'hlt).toNat : Nat) : Int) = x := hx.symm
      have hyy : (((t[k]'hlt2).toNat : Nat) : Int) = y := hy.symm
      rw [← hx, ← hy] at hX
      rw [← hx] at hr1
      rw [← hy] at hr2
      have HX : Hid (F = ((lowZ x == lowZ y) && alkF (s.data.toList.drop (k + 1)) (t.data.toList.drop (k + 1)))) := hX
      have HMx : Hid (∀ W, Calls Tryd.prog 41 #[.int .u8 x] W fun e w' => e = .returned (.int .u8 (lowZ x)) ∧ w' = W) := fun W => small21 x W hr1.1 hr1.2
      have HMy : Hid (∀ W, Calls Tryd.prog 41 #[.int .u8 y] W fun e w' => e = .returned (.int .u8 (lowZ y)) ∧ w' = W) := fun W => small21 y W hr2.1 hr2.2
      clear hx hy hX
      generalize lowZ x = lx at *
      generalize lowZ y = ly at *
      go_wp2_with fail
      go_quiet ((go_at_call 41; first | (with_reducible exact Calls.quiet_of_same (HMx.out _)) | (with_reducible exact Calls.quiet_of_same (HMy.out _))))
      have HBq : Hid (Below w.heap.size w (wr.drewN nq)) := HB.out.trans ⟨rfl, rfl, rfl, Nat.le_refl _, fun _ _ => rfl⟩
      generalize wr.drewN nq = wq at *
      clear HB hxx hyy
      by_cases hq : lx = ly
      · have q1 : (lx != ly) = false := by simpa using hq
        have HE : Hid (F = alkF (s.data.toList.drop (k + 1)) (t.data.toList.drop (k + 1))) := by show _ = _; rw [HX.out, hq]; simp
        clear HX hq
        go_wp2
        go_roundg (gk - 1)
        case measure => have := HG.out; omega
        case rel => exact ⟨k + 1, by have := HG.out; omega, by go_num, HE.out, HBq.out⟩
      · have q1 : (lx != ly) = true := by simpa using hq
        have HE : Hid (F = false) := by show _ = _; rw [HX.out, beq_eq_false_iff_ne.2 hq]; rfl
        clear HX hq
        go_wp2
        go_ret
        exact ⟨ret_bool HE.out.symm, HBq.out⟩
    · have HE : Hid (F = true) := by show _ = _; rw [HK.out, List.drop_eq_nil_of_le (by rw [HSz.out]; omega), List.drop_eq_nil_of_le (by rw [HTz.out, ← HLen.out]; omega)]; rfl
      clear HK hk
      go_wp2
      go_ret
      exact ⟨ret_bool HE.out.symm, HB.out⟩

set_option maxHeartbeats 1600000 in
theorem isName21 (s : ByteArray) (w : World) (hs : s.size ≤ 281474976710656) :
    Calls Tryd.prog 24 #[.string s] w fun e w' => e = .returned (.bool (nameF s.data.toList)) ∧ Below w.heap.size w w' := by
  have HSz : Hid (s.data.toList.length = s.size) := size20 s
  obtain ⟨E, hE⟩ : ∃ E, E = nameF s.data.toList := ⟨_, rfl⟩
  rw [← hE]
  have HE0 : Hid (nmR 0 (s.data.toList.drop 0) = E) := by show _ = _; rw [hE]; rfl
  obtain ⟨N, hN⟩ : ∃ N, N = w.heap.size := ⟨_, rfl⟩
  have HN : Hid (N = w.heap.size) := hN
  have HB0 : Hid (Below w.heap.size w (w.iter s 0)) := (Below.refl _ _).alloc (Nat.le_refl _) _
  rw [← hN] at HB0 ⊢
  clear hE
  go_enter Tryd.func24, Tryd.ntmps24
  go_wp2
  rw [← hN]
  clear hN
  go_loopg [3, 4] s.size (fun g a r wr => ∃ p : Nat, p + g = s.size ∧ Hid (nmR p (s.data.toList.drop p) = E) ∧ wr.heap[N]? = some (.stringIter s p) ∧ Hid (Below N w wr))
  case atStart => exact ⟨0, by omega, HE0.out, by rw [HN.out]; exact World.iter_heap _ _ _, HB0.out⟩
  case round =>
    obtain ⟨p, hg, HE, hit, HB⟩ := hrel
    have HG : Hid (p + gk = s.size) := hg
    clear HE0 HB0
    by_cases hp : p < s.size
    · have HD : Hid (s.data.toList.drop p = s[p] :: s.data.toList.drop (p + 1)) := drop20 hp
      by_cases hb : (s[p]'hp).toNat < 128
      · have hnx : ∀ ty, (Instr.next (.pointer (some ⟨N, 0, none⟩)) true ty).run Tryd.prog wr = .ok (.tuple #[.bool true, .int .i64 p, .int .i32 (s[p]'hp).toNat]) (wr.iterAt N s (p + 1)) := fun ty => Lib.run_next_ascii_at wr N s p ty hit hp hb
        have hit2 := Lib.iterAt_heap wr N s p (p + 1) hit
        have HB2 : Hid (Below N w (wr.iterAt N s (p + 1))) := HB.out.trans ⟨rfl, rfl, rfl, by rw [Lib.iterAt_size]; exact Nat.le_refl _, fun j hj => Lib.iterAt_other _ _ _ _ _ (by omega)⟩
        rw [HD.out] at HE
        generalize wr.iterAt N s (p + 1) = w1 at *
        have HX : Hid (nmB (s[p]'hp).toNat = true → (p = 0 → (((s[p]'hp).toNat : Int) != 35 && ((s[p]'hp).toNat : Int) != 45) = true) → nmR (p + 1) (s.data.toList.drop (p + 1)) = E) := fun h h2 => by
          have := HE.out
          by_cases h0 : p = 0
          · subst h0
            rw [nmR_low0, h, h2 rfl] at this
            simpa [nmR] using this
          · rwa [nmR_low h0 _ _ (p + 1) (by omega), h, Bool.true_and] at this
        have HY : Hid (nmB (s[p]'hp).toNat = false → false = E) := fun h => by
          have := HE.out
          by_cases h0 : p = 0
          · subst h0
            rw [nmR_low0, h] at this
            simpa using this
          · rwa [nmR_low h0 _ _ (p + 1) (by omega), h, Bool.false_and] at this
        have HZ : Hid (p = 0 → (((s[p]'hp).toNat : Int) != 35 && ((s[p]'hp).toNat : Int) != 45) = false → false = E) := fun h0 h => by
          have := HE.out
          subst h0
          rw [nmR_low0, h] at this
          simpa using this
        clear hit HD HE HB hg
        obtain ⟨z, hz⟩ : ∃ z : Int, z = (((s[p]'hp).toNat : Nat) : Int) := ⟨_, rfl⟩
        have h128 : z < 128 := by omega
        have h00 : 0 ≤ z := by omega
        rw [← hz] at HX HY HZ hnx
        have HU : Hid (nmB z = !(decide (z < 33) || decide (126 < z) || z == 58)) := rfl
        clear hz hb
        by_cases c1 : z ≤ 32
        · have HE : Hid (false = E) := HY.out (by rw [HU.out, decide_eq_true (show z < 33 by omega)]; rfl)
          clear HX HY HZ HU
          go_wp2
          go_ret
          exact ⟨ret_bool HE.out, HB2.out⟩
        by_cases c2 : 126 < z
        · have HE : Hid (false = E) := HY.out (by rw [HU.out, decide_eq_true c2]; simp)
          clear HX HY HZ HU
          go_wp2
          go_ret
          exact ⟨ret_bool HE.out, HB2.out⟩
        by_cases c3 : z = 58
        · subst c3
          have HE : Hid (false = E) := HY.out rfl
          clear HX HY HZ HU c1 c2
          go_wp2
          go_ret
          exact ⟨ret_bool HE.out, HB2.out⟩
        have c3b : (z == 58) = false := beq_eq_false_iff_ne.2 c3
        have hU : nmB z = true := by rw [HU.out, decide_eq_false (show ¬ z < 33 by omega), decide_eq_false c2, c3b]; rfl
        by_cases h0 : p = 0
        · have h0b : ((p : Int) == 0) = true := by simp [h0]
          by_cases c4 : z = 35
          · subst c4
            have HE : Hid (false = E) := HZ.out h0 rfl
            clear HX HY HZ HU c1 c2 hU c3 h0
            go_wp2
            go_ret
            exact ⟨ret_bool HE.out, HB2.out⟩
          by_cases c5 : z = 45
          · subst c5
            have HE : Hid (false = E) := HZ.out h0 rfl
            clear HX HY HZ HU c1 c2 hU c3 h0 c4
            go_wp2
            go_ret
            exact ⟨ret_bool HE.out, HB2.out⟩
          have c4b : (z == 35) = false := beq_eq_false_iff_ne.2 c4
          have c5b : (z == 45) = false := beq_eq_false_iff_ne.2 c5
          have HE : Hid (nmR (p + 1) (s.data.toList.drop (p + 1)) = E) := HX.out hU (fun _ => by rw [bne, bne, c4b, c5b]; rfl)
          clear HX HY HZ HU hU c3 h0 c4 c5
          go_wp2
          go_roundg (gk - 1)
          case measure => have := HG.out; omega
          case rel => exact ⟨p + 1, by have := HG.out; omega, HE.out, hit2, HB2.out⟩
        · have h0b : ((p : Int) == 0) = false := beq_eq_false_iff_ne.2 (by omega)
          have HE : Hid (nmR (p + 1) (s.data.toList.drop (p + 1)) = E) := HX.out hU (fun h => absurd h h0)
          clear HX HY HZ HU hU c3 h0
          go_wp2
          go_roundg (gk - 1)
          case measure => have := HG.out; omega
          case rel => exact ⟨p + 1, by have := HG.out; omega, HE.out, hit2, HB2.out⟩
      · have hnx : ∀ ty, (Instr.next (.pointer (some ⟨N, 0, none⟩)) true ty).run Tryd.prog wr = .ok (.tuple #[.bool true, .int .i64 p, .int .i32 (Utf8.decode s p).1]) (wr.iterAt N s (p + (Utf8.decode s p).2)) := fun ty => Lib.run_next_any_at wr N s p ty hit hp
        have HB2 : Hid (Below N w (wr.iterAt N s (p + (Utf8.decode s p).2))) := HB.out.trans ⟨rfl, rfl, rfl, by rw [Lib.iterAt_size]; exact Nat.le_refl _, fun j hj => Lib.iterAt_other _ _ _ _ _ (by omega)⟩
        have hhi : 128 ≤ (Utf8.decode s p).1 := (decode_high s p hp (by omega)).1
        generalize wr.iterAt N s (p + (Utf8.decode s p).2) = w1 at *
        have HE2 : Hid (false = E) := by show _ = _; rw [← HE.out, HD.out, nmR_hi (by omega)]
        obtain ⟨z, hz⟩ : ∃ z : Int, z = (((Utf8.decode s p).1 : Nat) : Int) := ⟨_, rfl⟩
        have h128 : 126 < z := by omega
        have c1 : ¬ z ≤ 32 := by omega
        rw [← hz] at hnx
        clear hit HD HE HB hb hg hz hhi
        go_wp2
        go_ret
        exact ⟨ret_bool HE2.out, HB2.out⟩
    · have hnx : ∀ ty, (Instr.next (.pointer (some ⟨N, 0, none⟩)) true ty).run Tryd.prog wr = .ok (.tuple #[.bool false]) wr := fun ty => Lib.run_next_end_at wr N s p ty hit hp
      have hd : s.data.toList.drop p = [] := List.drop_eq_nil_of_le (by rw [HSz.out]; omega)
      by_cases h0 : s.size = 0
      · have hl0 : s.data.toList = [] := List.eq_nil_of_length_eq_zero (by rw [HSz.out]; exact h0)
        have hs0 : s = ⟨#[]⟩ := ba_eq hl0
        have HE2 : Hid (false = E) := by
          show _ = _
          rw [← HE.out, hd, show p = 0 by omega]; rfl
        subst hs0
        clear HE hd hg h0
        go_wp2
        go_ret
        exact ⟨ret_bool HE2.out, HB.out⟩
      · have hne : ¬ s.toList = [] := fun e => h0 (by rw [ByteArray.toList_eq] at e; have := HSz.out; rw [e] at this; simpa using this.symm)
        have hnd : ¬ s.data = #[] := fun e => h0 (by have := HSz.out; rw [e] at this; simpa using this.symm)
        have h1 : s.toList.isEmpty = false := by simpa using hne
        have HE2 : Hid (true = E) := by
          show _ = _
          rw [← HE.out, hd]
          simp [nmR, show p ≠ 0 by omega]
        clear HE hd hg h0
        go_wp2
        go_ret
        refine ⟨ret_bool (by rw [← HE2.out]; try simp [hnd, hne, h1]), HB.out⟩

end Go.Proofs.YtbeaoekbppdlmaaDoor
set_option linter.unusedSimpArgs false
set_option linter.unusedVariables false
namespace Go.Proofs.YtbeaoekbppdlmaaDoor
open Go Go.RowKit

/-- a field in a box -/
def Fz2 (W : World) (D : Nat) (a b : List UInt8) : Prop := W.heap[D]? = some (.cells #[.string ⟨a.toArray⟩, .string ⟨b.toArray⟩] 50 (0, 0))
theorem Fz2.lt {W : World} {D : Nat} {a b : List UInt8} (h : Fz2 W D a b) : D < W.heap.size := (Array.getElem?_eq_some_iff.1 h).1
theorem Fz2.c0 {W : World} {D : Nat} {a b : List UInt8} (h : Fz2 W D a b) : W.cell? ⟨D, 0, none⟩ = some (.string ⟨a.toArray⟩) := by simp [World.cell?, show W.heap[D]? = _ from h]
theorem Fz2.c1 {W : World} {D : Nat} {a b : List UInt8} (h : Fz2 W D a b) : W.cell? ⟨D, 1, none⟩ = some (.string ⟨b.toArray⟩) := by simp [World.cell?, show W.heap[D]? = _ from h]
theorem Fz2.mk1 (W : World) (a b : List UInt8) : Fz2 (W.alloc (.cells #[.string ⟨a.toArray⟩, .string ⟨b.toArray⟩] 50)) W.heap.size a b := World.alloc_heap_new W _
theorem Fz2.blw {W W' : World} {D : Nat} {a b : List UInt8} (h : Fz2 W D a b) (hb : Below W.heap.size W W') : Fz2 W' D a b := (hb.block D h.lt).trans h

set_option maxHeartbeats 3200000 in
theorem get21 (ln : Int) (v : Value) (fs : List Fld) (t : ByteArray) (w : World) (hr : RdG w v fs) (ht : t.size ≤ 281474976710656) :
    Calls Tryd.prog 10 #[.agg #[.int .i64 ln, v], .string t] w fun e w' => e = .returned (gtV (getF fs t.data.toList)) ∧ Below w.heap.size w w' := by
  have hl := hr.len
  have hlen : fs.length * 32 ≤ 140737488351232 := hl
  have HR : Hid (RdG w v fs) := hr
  obtain ⟨a, c, rfl, hc, hm, -⟩ := hr.form
  obtain ⟨G, hG⟩ : ∃ G, G = getF fs t.data.toList := ⟨_, rfl⟩
  rw [← hG]
  have HG0 : Hid (G = getF (fs.drop 0) t.data.toList) := hG
  clear hG hr hl
  go_enter Tryd.func10, Tryd.ntmps10
  go_wp2
  have HB0 : Hid (Below w.heap.size w (w.alloc (.cells #[.int .i64 ln, .slice a fs.length c] 35))) := Below.alloc (Below.refl _ _) (Nat.le_refl _) _
  generalize w.alloc (.cells #[.int .i64 ln, .slice a fs.length c] 35) = w1 at *
  go_loopg [11] fs.length (fun g i wr => ∃ k : Nat, k + g = fs.length ∧ i = .int .i64 k ∧ Hid (G = getF (fs.drop k) t.data.toList) ∧ Hid (Below w.heap.size w wr))
  case atStart => exact ⟨0, by omega, rfl, HG0.out, HB0.out⟩
  case round =>
    obtain ⟨k, hk, rfl, HK, HB⟩ := hrel
    have HG : Hid (k + gk = fs.length) := hk
    clear HG0 HB0
    by_cases hlt : k < fs.length
    · obtain ⟨a', c', e', -, -, hcell⟩ := (HR.out.belowB HB.out (Nat.le_refl _)).form
      have e3 : a' = a ∧ c' = c := by injection e' with q1 q2 q3; exact ⟨q1.symm, q3.symm⟩
      obtain ⟨rfl, rfl⟩ := e3
      obtain ⟨b, off, rfl, hb, hn, hv⟩ := hcell k hlt
      have hX : G = (if alkF (fs.getD k ([], [])).1 t.data.toList then some (fs.getD k ([], [])).2 else getF (fs.drop (k + 1)) t.data.toList) := by rw [HK.out, getD_drop hlt]; rfl
      have hsz := HR.out.each _ (getD_mem' (l := fs) (k := k) (d := ([], [])) hlt)
      generalize fs.getD k ([], []) = f at *
      obtain ⟨f1, f2⟩ := f
      have HAl' := fun W => alike21 ⟨f1.toArray⟩ t W (by have := hsz.1; simp [ByteArray.size]; omega)
      have HCl' := fun W => clone21 ⟨f2.toArray⟩ W (by have := hsz.2; simp [ByteArray.size]; omega)
      simp only [strV_list] at HAl'
      unfold strV at hn hv
      have HAl : Hid (∀ W, Calls Tryd.prog 27 #[.string ⟨f1.toArray⟩, .string t] W fun e w' => e = .returned (.bool (alkF f1 t.data.toList)) ∧ Below W.heap.size W w') := HAl'
      have HCl : Hid (∀ W, Calls Tryd.prog 28 #[.string ⟨f2.toArray⟩] W fun e w' => e = .returned (.string ⟨f2.toArray⟩) ∧ Below W.heap.size W w') := HCl'
      have HX : Hid (G = (if alkF f1 t.data.toList then some f2 else getF (fs.drop (k + 1)) t.data.toList)) := hX
      have hn : wr.cell? ⟨b, off + k * 2, none⟩ = some (.string ⟨f1.toArray⟩) := hn
      have hv : wr.cell? ⟨b, off + k * 2 + 1, none⟩ = some (.string ⟨f2.toArray⟩) := hv
      have HFz : Hid (Fz2 (wr.alloc (.cells #[.string ⟨f1.toArray⟩, .string ⟨f2.toArray⟩] 50)) wr.heap.size f1 f2) := Fz2.mk1 _ _ _
      have HBx : Hid (Below wr.heap.size wr (wr.alloc (.cells #[.string ⟨f1.toArray⟩, .string ⟨f2.toArray⟩] 50))) := Below.alloc (Below.refl _ _) (Nat.le_refl _) _
      clear e' hcell hsz HK HAl' HCl' hX hk
      generalize alkF f1 t.data.toList = al at *
      go_upto_region 4 with fail
      have hN := HFz.out.c0
      clear hn hv
      obtain ⟨D, hD⟩ : ∃ D, D = wr.heap.size := ⟨_, rfl⟩
      have HD : Hid (D = wr.heap.size) := hD
      generalize wr.alloc (.cells #[.string ⟨f1.toArray⟩, .string ⟨f2.toArray⟩] 50) = wa at *
      rw [← hD] at HFz hN ⊢
      clear hD
      go_wp2_with fail
      refine (HAl.out _).mono ?_
      rintro e w2 ⟨rfl, bel2⟩
      have HF2 : Hid (Fz2 w2 D f1 f2) := HFz.out.blw bel2
      have HB2 : Hid (Below w.heap.size w w2) := HB.out.trans ((HBx.out.trans (bel2.mono HBx.out.size)).mono HB.out.size)
      have hV := HF2.out.c1
      clear hN bel2 HAl HFz HBx
      cases al
      · have HE : Hid (G = getF (fs.drop (k + 1)) t.data.toList) := HX.out
        clear HX
        go_wp2
        go_roundg (gk - 1)
        case measure => have := HG.out; omega
        case rel => exact ⟨k + 1, by have := HG.out; omega, by go_num, HE.out, HB2.out⟩
      · have HE : Hid (G = some f2) := HX.out
        clear HX
        go_wp2_with fail
        refine (HCl.out _).mono ?_
        rintro e w3 ⟨rfl, bel3⟩
        have HB3 : Hid (Below w.heap.size w w3) := HB2.out.trans (bel3.mono HB2.out.size)
        clear bel3 hV
        go_wp2
        go_returns
        exact ⟨by rw [HE.out]; rfl, HB3.out⟩
    · have HE : Hid (G = none) := by show _ = _; rw [HK.out, List.drop_eq_nil_of_le (by omega)]; rfl
      clear HK hk
      go_wp2
      go_returns
      exact ⟨by rw [HE.out]; rfl, HB.out⟩

end Go.Proofs.YtbeaoekbppdlmaaDoor
