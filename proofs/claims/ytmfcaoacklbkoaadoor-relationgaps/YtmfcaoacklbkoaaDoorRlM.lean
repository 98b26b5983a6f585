/-
  The program's reader of relations: its box; run, look, pass, walked.
  KEEP: off c0 c1 c2 c3 c4 s0 s1 s2 s3 s4 newS rds lt f t q x len below nil form rd mono on app start at new trans refl kept own row out grown rdz set one more lt size cell some none letL tail next step go add put del get look no yes e c f b k n m box blw c0 c1
-/
import Derived.Test.YtmfcaoacklbkoaaDoorRlL
set_option linter.unusedSimpArgs false
set_option linter.unusedVariables false
namespace Go.Proofs.YtmfcaoacklbkoaaDoor
open Go Go.RowKit

/-- the reader's box: the text, the place -/
def Rx (W : World) (D : Nat) (s : ByteArray) (k : Nat) : Prop := W.heap[D]? = some (.cells #[.string s, .int .i64 k] 59 (0, 0))
section
variable {W : World} {D : Nat} {s : ByteArray} {k : Nat}
theorem Rx.lt (h : Rx W D s k) : D < W.heap.size := (Array.getElem?_eq_some_iff.1 h).1
theorem Rx.c0 (h : Rx W D s k) : W.cell? ⟨D, 0, none⟩ = some (.string s) := by simp [World.cell?, show W.heap[D]? = _ from h]
theorem Rx.c1 (h : Rx W D s k) : W.cell? ⟨D, 1, none⟩ = some (.int .i64 k) := by simp [World.cell?, show W.heap[D]? = _ from h]
theorem Rx.fz (h : Rx W D s k) (q : Nat) : W.frozen? ⟨D, q, none⟩ = false := by simp [World.frozen?, show W.heap[D]? = _ from h]
theorem Rx.kept {W' : World} (h : Rx W D s k) (hk : W'.heap[D]? = W.heap[D]?) : Rx W' D s k := hk.trans h
theorem Rx.blw {W' : World} (h : Rx W D s k) (hb : Below W.heap.size W W') : Rx W' D s k := h.kept (hb.block D h.lt)
theorem Rx.s1 (h : Rx W D s k) (j : Nat) : Rx (W.setCell ⟨D, 1, none⟩ (.int .i64 j)) D s j := by
  obtain ⟨hlt, hk⟩ := Array.getElem?_eq_some_iff.1 h
  show (W.heap.modify D _)[D]? = _
  rw [Array.getElem?_eq_getElem (by rw [Array.size_modify]; exact hlt), Array.getElem_modify_self, hk]
  rfl
theorem Rx.new (W : World) (s : ByteArray) (k : Nat) : Rx (W.alloc (.cells #[.string s, .int .i64 k] 59)) W.heap.size s k := World.alloc_heap_new W _
end
theorem gr_b22 {A B : World} {g : Option Nat} (h : Below A.heap.size A B) : A.grownBy B g := ⟨h.os, h.tape, h.output, h.size, fun i hi _ => h.block i hi⟩
theorem gr_set22 {A B : World} {b : Nat} (h : A.grownBy B (some b)) (k : Nat) (x : Value) : A.grownBy (B.setCell ⟨b, k, none⟩ x) (some b) :=
  ⟨h.os, h.tape, h.output, by rw [show (B.setCell ⟨b, k, none⟩ x).heap.size = B.heap.size by simp]; exact h.size, fun i hi hn => (Below.heap_setCell _ _ _ _ (fun e => hn (by rw [e]))).trans (h.block i hi hn)⟩
theorem gr_trans22 {A B C : World} {g : Nat} (h : A.grownBy B (some g)) (k : B.grownBy C (some g)) : A.grownBy C (some g) :=
  ⟨k.os.trans h.os, k.tape.trans h.tape, k.output.trans h.output, Nat.le_trans h.size k.size, fun i hi hn => (k.block i (Nat.lt_of_lt_of_le hi h.size) hn).trans (h.block i hi hn)⟩

set_option maxHeartbeats 3200000 in
theorem run22 (ks : List Int) (p : Int → Bool) (s : ByteArray) (k D b c : Nat) (w : World) (hp : ∀ z, inK ks z = p z) (hR : Rx w D s k) (hk : k ≤ s.size) (hs : s.size ≤ 281474976710656)
    (hl : ks.length ≤ 16) (hc : ks.length ≤ c) (hc2 : c ≤ 16) (hr : ∀ j, j < ks.length → w.cell? ⟨b, j, none⟩ = some (.int .i64 (ks.getD j 0))) :
    Calls Tryd.prog 52 #[.pointer (some ⟨D, 0, none⟩), .slice (some ⟨b, 0, none⟩) ks.length c] w fun e w' => e = .returned (.string (s.extract k (runF p s.data.toList k))) ∧ Below w.heap.size w w' := by
  obtain ⟨R, hRr⟩ : ∃ R, R = runF p s.data.toList k := ⟨_, rfl⟩
  rw [← hRr]
  have HSz : Hid (s.data.toList.length = s.size) := size20 s
  have HR : Hid (R = runF p s.data.toList k) := hRr
  have HKd : Hid (∀ z, Calls Tryd.prog 53 #[.int .u8 z] w fun e w' => e = .returned (.int .i64 (kdZ z)) ∧ w' = w) := fun z => kindOf22 z w
  have HCt : Hid (∀ z, Calls Tryd.prog 64 #[.slice (some ⟨b, 0, none⟩) ks.length c, .int .i64 (kdZ z)] w fun e w' => e = .returned (.bool (p z)) ∧ w' = w) := fun z => by
    rw [← hp z]; exact kContains22 ks (kdZ z) b c w hl hc hc2 hr
  have c0 := hR.c0
  have c1 := hR.c1
  have z0 := hR.fz 0
  have z1 := hR.fz 1
  clear hRr hp hr hR hl hc hc2
  generalize ks.length = n at *
  go_enter Tryd.func52, Tryd.ntmps52
  go_wp2
  go_loopg [5] (s.size - k) (fun g i wr => ∃ j : Nat, k ≤ j ∧ j + g = s.size ∧ i = .int .i64 j ∧ Hid (R = runF p s.data.toList j) ∧ w = wr)
  case atStart => exact ⟨k, Nat.le_refl _, by omega, rfl, HR.out, rfl⟩
  case round =>
    obtain ⟨j, hkj, hj, rfl, HK, hw⟩ := hrel
    subst hw
    have HG : Hid (j + gk = s.size) := hj
    clear HR
    by_cases hlt : j < s.size
    · have HY : Hid (p ((s[j]'hlt).toNat : Int) = true → R = runF p s.data.toList (j + 1)) := fun h => by rw [HK.out]; exact runF_yes hlt h
      have HN : Hid (p ((s[j]'hlt).toNat : Int) = false → R = j) := fun h => by rw [HK.out]; exact runF_no hlt h
      clear hj HK
      obtain ⟨z, hz⟩ : ∃ z : Int, z = (((s[j]'hlt).toNat : Nat) : Int) := ⟨_, rfl⟩
      have hzz : (((s[j]'hlt).toNat : Nat) : Int) = z := hz.symm
      rw [← hz] at HY HN
      clear hz
      have HKz : Hid (Calls Tryd.prog 53 #[.int .u8 z] w fun e w' => e = .returned (.int .i64 (kdZ z)) ∧ w' = w) := HKd.out z
      have HCz : Hid (Calls Tryd.prog 64 #[.slice (some ⟨b, 0, none⟩) n c, .int .i64 (kdZ z)] w fun e w' => e = .returned (.bool (p z)) ∧ w' = w) := HCt.out z
      clear HKd HCt
      generalize kdZ z = K at *
      cases hb : p z
      · rw [hb] at HCz
        have HE : Hid (R = j) := HN.out hb
        clear HY HN hb
        go_wp2_with (first | (go_at_call 53; refine HKz.out.mono ?_; rintro e w9 ⟨rfl, h9⟩; have h9s := h9.symm; clear h9; subst h9s) | (go_at_call 64; refine HCz.out.mono ?_; rintro e w9 ⟨rfl, h9⟩; have h9s := h9.symm; clear h9; subst h9s) | (go_quiet (fail)))
        go_ret
        exact ⟨by rw [HE.out]; rfl, ⟨rfl, rfl, rfl, Nat.le_refl _, fun _ _ => rfl⟩⟩
      · rw [hb] at HCz
        have HE : Hid (R = runF p s.data.toList (j + 1)) := HY.out hb
        clear HY HN hb
        go_wp2_with (first | (go_at_call 53; refine HKz.out.mono ?_; rintro e w9 ⟨rfl, h9⟩; have h9s := h9.symm; clear h9; subst h9s) | (go_at_call 64; refine HCz.out.mono ?_; rintro e w9 ⟨rfl, h9⟩; have h9s := h9.symm; clear h9; subst h9s))
        go_roundg (gk - 1)
        case measure => have := HG.out; omega
        case rel => exact ⟨j + 1, by omega, by have := HG.out; omega, by first | rfl | go_num, HE.out, rfl⟩
    · have HE : Hid (R = j) := by show _ = _; rw [HK.out]; exact runF_end _ _ _ (by rw [HSz.out]; omega)
      have hjs : j ≤ s.size := by omega
      have i2 : (0 : Int) ≤ (k : Int) ∧ (k : Int) ≤ (j : Int) := by omega
      clear HK hj
      go_wp2_with fail
      go_quiet (fail)
      go_wp2
      go_ret
      exact ⟨by rw [HE.out]; rfl, ⟨rfl, rfl, rfl, Nat.le_refl _, fun _ _ => rfl⟩⟩

/-- what stands at the next piece's place; where the reader stands then -/
def LkA (W W' : World) (D : Nat) (s : ByteArray) (a : Nat) : Prop := Rx W' D s a ∧ W.grownBy W' (some D)
theorem LkA.drewN {W W' : World} {D : Nat} {s : ByteArray} {a : Nat} (h : LkA W W' D s a) (n : Nat) : LkA W (W'.drewN n) D s a := ⟨h.1, h.2.os, h.2.tape, h.2.output, h.2.size, h.2.block⟩
set_option maxHeartbeats 3200000 in
set_option maxRecDepth 20000 in
theorem look22 (s : ByteArray) (k D : Nat) (w : World) (hR : Rx w D s k) (hk : k ≤ s.size) (hs : s.size ≤ 281474976710656) :
    Calls Tryd.prog 44 #[.pointer (some ⟨D, 0, none⟩)] w fun e w' => e = .returned (.int .i64 (lkF s (runF gapZ s.data.toList k))) ∧ LkA w w' D s (runF gapZ s.data.toList k) := by
  have hka := runF_ge gapZ s.data.toList k
  have has := runF_le22 gapZ s hk
  have hlt := hR.lt
  have HRun : Hid (Calls Tryd.prog 52 #[.pointer (some ⟨D, 0, none⟩), .slice (some ⟨w.heap.size, 0, none⟩) 1 1] (w.alloc (.cells #[.int .i64 1] 82)).drew fun e w' => e = .returned (.string (s.extract k (runF gapZ s.data.toList k))) ∧ Below (w.alloc (.cells #[.int .i64 1] 82)).heap.size (w.alloc (.cells #[.int .i64 1] 82)) w') := by
    have h00 : Rx (w.alloc (.cells #[.int .i64 1] 82)) D s k := hR.blw (Below.alloc (Below.refl _ _) (Nat.le_refl _) _)
    have h0 : Rx (w.alloc (.cells #[.int .i64 1] 82)).drew D s k := h00
    have h1 : (w.alloc (.cells #[.int .i64 1] 82)).drew.cell? ⟨w.heap.size, 0, none⟩ = some (.int .i64 1) := by
      have e := World.alloc_heap_new w (.cells #[.int .i64 1] 82)
      exact cell_of22 e 0
    have := run22 [1] gapZ s k D w.heap.size 1 (w.alloc (.cells #[.int .i64 1] 82)).drew kd_gap h0 hk hs (by decide) (by decide) (by decide) (fun j hj => by
      have : j = 0 := by simpa using hj
      subst this; exact h1)
    exact this.mono fun e w' ⟨q1, q2⟩ => ⟨q1, q2.os, q2.tape, q2.output, q2.size, q2.block⟩
  have hG : (s.extract k (runF gapZ s.data.toList k)).size = runF gapZ s.data.toList k - k := by rw [ByteArray.size_extract]; omega
  generalize runF gapZ s.data.toList k = a at *
  generalize s.extract k a = G at *
  obtain ⟨m, hm⟩ : ∃ m, m = G.size := ⟨_, rfl⟩
  have hw1 : IntKind.i64.wrap ((k : Int) + (m : Int)) = (a : Int) := by rw [IntKind.wrap_i64]; omega
  have hmm : G.size = m := hm.symm
  have c0 := hR.c0
  have c1 := hR.c1
  have z1 := hR.fz 1
  have e0 : (w.alloc (.cells #[.int .i64 1] 82)).cell? ⟨D, 0, none⟩ = some (.string s) := (hR.blw (Below.alloc (Below.refl _ _) (Nat.le_refl _) _)).c0
  have e1 : (w.alloc (.cells #[.int .i64 1] 82)).cell? ⟨D, 1, none⟩ = some (.int .i64 k) := (hR.blw (Below.alloc (Below.refl _ _) (Nat.le_refl _) _)).c1
  have HFin : Hid (∀ w', Below (w.alloc (.cells #[.int .i64 1] 82)).heap.size (w.alloc (.cells #[.int .i64 1] 82)) w' → Rx w' D s k ∧ LkA w (w'.setCell ⟨D, 1, none⟩ (.int .i64 a)) D s a) := fun w' hb => by
    have hb0 : Below w.heap.size w w' := (Below.alloc (Below.refl _ _) (Nat.le_refl _) _).trans (hb.mono (by simp))
    have h1 : Rx w' D s k := hR.blw hb0
    exact ⟨h1, h1.s1 a, gr_set22 (gr_b22 hb0) _ _⟩
  clear hG hm hR
  go_enter Tryd.func44, Tryd.ntmps44
  go_wp2_with fail
  go_cut [] from 3 to 13 (fun wx => LkA w wx D s a)
  case first =>
    go_region_law (go_wp2_with (go_at_call 52; refine HRun.out.mono ?_; rintro e w8 ⟨rfl, b8⟩; obtain ⟨h8, h9⟩ := HFin.out w8 b8; have HL : Hid (LkA w (w8.setCell ⟨D, 1, none⟩ (.int .i64 a)) D s a) := h9; have q1 := h8.c1; have q2 := h8.fz 1; clear b8 h8 h9))
    all_goals
      go_wp2_with fail
      go_meet
      exact HL.out
  case rest =>
    obtain ⟨hX, hGr⟩ := hcut
    clear c0 c1 z1 e0 e1 HFin HRun hw1 hmm hlt hka
    have c0 := hX.c0
    have c1 := hX.c1
    have HX : Hid (LkA w wc D s a) := ⟨hX, hGr⟩
    have HKd : Hid (∀ z V, Calls Tryd.prog 53 #[.int .u8 z] V fun e w' => e = .returned (.int .i64 (kdZ z)) ∧ w' = V) := fun z V => kindOf22 z V
    clear hX hGr
    by_cases hend : a < s.size
    · have hb : ((a : Int) == (s.size : Int)) = false := by simp; omega
      have HLk : Hid (lkF s a = kdZ ((s[a]'hend).toNat : Int)) := lk_in hend
      obtain ⟨z, hz⟩ : ∃ z : Int, z = (((s[a]'hend).toNat : Nat) : Int) := ⟨_, rfl⟩
      have hzz : (((s[a]'hend).toNat : Nat) : Int) = z := hz.symm
      rw [← hz] at HLk
      clear hz
      go_wp2_with fail
      go_quiet (fail)
      have HX2 : Hid (LkA w (wc.drewN nq) D s a) := HX.out.drewN nq
      clear c0 c1 HX
      generalize wc.drewN nq = w2 at *
      have c0 := HX2.out.1.c0
      have c1 := HX2.out.1.c1
      go_wp2_with fail
      go_quiet ((go_at_call 53; exact Calls.quiet_of_same (HKd.out _ _)))
      go_wp2
      go_ret
      exact ⟨by rw [HLk.out]; rfl, HX2.out.drewN _⟩
    · have hae : a = s.size := by omega
      subst hae
      have hb : ((s.size : Int) == (s.size : Int)) = true := by simp
      have HLk : Hid (lkF s s.size = 0) := lk_out hend
      go_wp2_with fail
      go_quiet (fail)
      go_wp2
      go_ret
      exact ⟨by rw [HLk.out]; rfl, HX.out.drewN _⟩

/-- where the reader stands behind pass -/
def psA (s : ByteArray) (a : Nat) (K : Int) : Nat := if lkF s a = K then a + 1 else a
set_option maxHeartbeats 1600000 in
theorem pass22 (s : ByteArray) (k D : Nat) (K : Int) (w : World) (hR : Rx w D s k) (hk : k ≤ s.size) (hs : s.size ≤ 281474976710656) :
    Calls Tryd.prog 48 #[.pointer (some ⟨D, 0, none⟩), .int .i64 K] w fun e w' => e = .returned (.bool (lkF s (runF gapZ s.data.toList k) == K)) ∧ LkA w w' D s (psA s (runF gapZ s.data.toList k) K) := by
  have has := runF_le22 gapZ s hk
  have HLo : Hid (Calls Tryd.prog 44 #[.pointer (some ⟨D, 0, none⟩)] w fun e w' => e = .returned (.int .i64 (lkF s (runF gapZ s.data.toList k))) ∧ LkA w w' D s (runF gapZ s.data.toList k)) := look22 s k D w hR hk hs
  clear hR
  generalize runF gapZ s.data.toList k = a at *
  have HPs : Hid (psA s a K = if lkF s a = K then a + 1 else a) := rfl
  generalize psA s a K = q at *
  generalize lkF s a = L at *
  by_cases hL : L = K
  · have HE : Hid (q = a + 1) := by show _ = _; rw [HPs.out, if_pos hL]
    have hb : (L != K) = false := by simpa using hL
    have hb2 : (L == K) = true := by simpa using hL
    have hw1 : IntKind.i64.wrap ((a : Int) + 1) = (a : Int) + 1 := by rw [IntKind.wrap_i64]; omega
    clear HPs hL
    go_enter Tryd.func48, Tryd.ntmps48
    go_wp2_with (go_at_call 44; refine HLo.out.mono ?_; rintro e w8 ⟨rfl, h8⟩; have HX : Hid (LkA w w8 D s a) := h8; clear h8; have c1 := HX.out.1.c1; have z1 := HX.out.1.fz 1)
    go_ret
    exact ⟨ret_bool hb2.symm, by rw [HE.out]; exact ⟨HX.out.1.s1 (a + 1), gr_set22 HX.out.2 _ _⟩⟩
  · have HE : Hid (q = a) := by show _ = _; rw [HPs.out, if_neg hL]
    have hb : (L != K) = true := by simpa using hL
    have hb2 : (L == K) = false := by simpa using hL
    clear HPs hL
    go_enter Tryd.func48, Tryd.ntmps48
    go_wp2_with (go_at_call 44; refine HLo.out.mono ?_; rintro e w8 ⟨rfl, h8⟩; have HX : Hid (LkA w w8 D s a) := h8; clear h8)
    go_ret
    exact ⟨ret_bool hb2.symm, by rw [HE.out]; exact HX.out⟩

end Go.Proofs.YtmfcaoacklbkoaaDoor
