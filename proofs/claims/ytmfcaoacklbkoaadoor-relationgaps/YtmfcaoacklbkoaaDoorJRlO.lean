/-
  joined: RlO RlR RlS RlU RlX RlY RlZ RmA RmG
-/
import Derived.Test.YtmfcaoacklbkoaaDoorRlN
import Derived.Test.YtmfcaoacklbkoaaDoorRlQ
import Derived.Test.YtmfcaoacklbkoaaDoorVsC
import Derived.Test.YtmfcaoacklbkoaaDoorRlW
import Derived.Test.YtmfcaoacklbkoaaDoorJRlF
set_option linter.unusedSimpArgs false
set_option linter.unusedVariables false
namespace Go.Proofs.YtmfcaoacklbkoaaDoor
open Go Go.RowKit

/-- may the byte stand in a name -/
def inZ (z : Int) (f : Bool) : Bool := pnZ z || (!f && (z == 43 || z == 45 || z == 46))
set_option maxHeartbeats 1600000 in
theorem inName22 (z : Int) (f : Bool) (w : World) : Calls Tryd.prog 43 #[.int .u8 z, .bool f] w fun e w' => e = .returned (.bool (inZ z f)) ∧ w' = w := by
  have HI : Hid (inZ z f = (((decide (97 ≤ z) && decide (z ≤ 122)) || (decide (48 ≤ z) && decide (z ≤ 57))) || (!f && (z == 43 || z == 45 || z == 46)))) := rfl
  generalize inZ z f = R at *
  by_cases a1 : 97 ≤ z ∧ z ≤ 122
  · obtain ⟨a1, a2⟩ := a1
    have HE : Hid (R = true) := by show _ = _; rw [HI.out, decide_eq_true a1, decide_eq_true a2]; rfl
    clear HI
    go_enter Tryd.func43, Tryd.ntmps43
    go_wp2
    go_ret
    exact ⟨ret_bool HE.out.symm, rfl⟩
  by_cases a2 : 48 ≤ z ∧ z ≤ 57
  · obtain ⟨a3, a4⟩ := a2
    have HE : Hid (R = true) := by show _ = _; rw [HI.out, decide_eq_true a3, decide_eq_true a4, Bool.and_true, Bool.or_true, Bool.true_or]
    clear HI a1
    have a5 : ¬ 97 ≤ z := by omega
    go_enter Tryd.func43, Tryd.ntmps43
    go_wp2
    go_ret
    exact ⟨ret_bool HE.out.symm, rfl⟩
  have hpn : ((decide (97 ≤ z) && decide (z ≤ 122)) || (decide (48 ≤ z) && decide (z ≤ 57))) = false := by simp; omega
  have HI2 : Hid (R = (!f && (z == 43 || z == 45 || z == 46))) := by show _ = _; rw [HI.out, hpn]; rfl
  clear HI hpn
  by_cases c : z = 43 ∨ z = 45 ∨ z = 46
  · have HE : Hid (R = !f) := by
      show _ = _
      rw [HI2.out]
      rcases c with rfl | rfl | rfl
      all_goals cases f <;> rfl
    clear HI2
    rcases c with rfl | rfl | rfl
    all_goals
      clear a1 a2
      go_enter Tryd.func43, Tryd.ntmps43
      go_wp2
      go_ret
      exact ⟨ret_bool HE.out.symm, rfl⟩
  · have d1 : (z == 43) = false := by simp; omega
    have d2 : (z == 45) = false := by simp; omega
    have d3 : (z == 46) = false := by simp; omega
    have HE : Hid (R = false) := by show _ = _; rw [HI2.out, d1, d2, d3]; cases f <;> rfl
    clear HI2 c
    by_cases b1 : 97 ≤ z
    · have b2 : ¬ z ≤ 122 := by omega
      have b3 : ¬ z ≤ 57 := by omega
      clear a1 a2
      by_cases b4 : 48 ≤ z
      all_goals
        go_enter Tryd.func43, Tryd.ntmps43
        go_wp2
        go_ret
        exact ⟨ret_bool HE.out.symm, rfl⟩
    · by_cases b4 : 48 ≤ z
      · have b3 : ¬ z ≤ 57 := by omega
        clear a1 a2
        go_enter Tryd.func43, Tryd.ntmps43
        go_wp2
        go_ret
        exact ⟨ret_bool HE.out.symm, rfl⟩
      · clear a1 a2
        go_enter Tryd.func43, Tryd.ntmps43
        go_wp2
        go_ret
        exact ⟨ret_bool HE.out.symm, rfl⟩

theorem rnA_step {s : ByteArray} {k : Nat} (h : k < s.size) : rnA k (s.data.toList.drop k) = (inZ ((s[k]'h).toNat : Int) (decide (k = 0)) && rnA (k + 1) (s.data.toList.drop (k + 1))) := by
  rw [drop20 h, rnA]
  have e : (k != 0) = !decide (k = 0) := by by_cases h0 : k = 0 <;> simp [h0]
  unfold inZ
  rw [e]
set_option maxHeartbeats 3200000 in
theorem pName22 (s : ByteArray) (w : World) (hs : s.size ≤ 281474976710656) :
    Calls Tryd.prog 28 #[.string s] w fun e w' => e = .returned (.bool (rnmF s.data.toList)) ∧ w' = w := by
  have HSz : Hid (s.data.toList.length = s.size) := size20 s
  have HF : Hid (rnmF s.data.toList = (decide (2 ≤ s.size) && rnA 0 (s.data.toList.drop 0))) := by show _ = _; unfold rnmF; rw [HSz.out, List.drop_zero]
  generalize rnmF s.data.toList = F at *
  have HIn : Hid (∀ z f, Calls Tryd.prog 43 #[.int .u8 z, .bool f] w fun e w' => e = .returned (.bool (inZ z f)) ∧ w' = w) := fun z f => inName22 z f w
  go_enter Tryd.func28, Tryd.ntmps28
  go_wp2
  go_loopg [6] s.size (fun g i wr => ∃ k : Nat, k + g = s.size ∧ i = .int .i64 k ∧ Hid (F = (decide (2 ≤ s.size) && rnA k (s.data.toList.drop k))) ∧ w = wr)
  case atStart => exact ⟨0, by omega, rfl, HF.out, rfl⟩
  case round =>
    obtain ⟨k, hk, rfl, HK, hw⟩ := hrel
    subst hw
    have HG : Hid (k + gk = s.size) := hk
    clear HF
    by_cases hlt : k < s.size
    · have HK2 : Hid (F = (decide (2 ≤ s.size) && (inZ ((s[k]'hlt).toNat : Int) (decide (k = 0)) && rnA (k + 1) (s.data.toList.drop (k + 1))))) := by show _ = _; rw [HK.out, rnA_step hlt]
      clear hk HK
      obtain ⟨z, hz⟩ : ∃ z : Int, z = (((s[k]'hlt).toNat : Nat) : Int) := ⟨_, rfl⟩
      have hzz : (((s[k]'hlt).toNat : Nat) : Int) = z := hz.symm
      rw [← hz] at HK2
      clear hz
      have hk0 : ((k : Int) == 0) = decide (k = 0) := by by_cases h0 : k = 0 <;> simp [h0]
      have HI2 : Hid (Calls Tryd.prog 43 #[.int .u8 z, .bool (decide (k = 0))] w fun e w' => e = .returned (.bool (inZ z (decide (k = 0)))) ∧ w' = w) := HIn.out _ _
      generalize decide (k = 0) = f at *
      cases hb : inZ z f
      · rw [hb] at HI2
        have HE : Hid (F = false) := by show _ = _; rw [HK2.out, hb, Bool.false_and, Bool.and_false]
        clear HK2 hb
        go_wp2_with (go_at_call 43; refine HI2.out.mono ?_; rintro e w9 ⟨rfl, h9⟩; have h9s := h9.symm; clear h9; subst h9s)
        go_ret
        exact ⟨ret_bool HE.out.symm, rfl⟩
      · rw [hb] at HI2
        have HE : Hid (F = (decide (2 ≤ s.size) && rnA (k + 1) (s.data.toList.drop (k + 1)))) := by show _ = _; rw [HK2.out, hb, Bool.true_and]
        clear HK2 hb
        go_wp2_with (go_at_call 43; refine HI2.out.mono ?_; rintro e w9 ⟨rfl, h9⟩; have h9s := h9.symm; clear h9; subst h9s)
        go_roundg (gk - 1)
        case measure => have := HG.out; omega
        case rel => exact ⟨k + 1, by have := HG.out; omega, by first | rfl | go_num, HE.out, rfl⟩
    · have HE : Hid (F = decide ((s.size : Int) ≥ 2)) := by
        show _ = _
        rw [HK.out, List.drop_eq_nil_of_le (by rw [HSz.out]; omega)]
        simp [rnA]; omega
      clear HK hk
      go_wp2
      go_ret
      exact ⟨ret_bool (by rw [HE.out]), rfl⟩

theorem emp22 (s : ByteArray) : s.data.toList.isEmpty = s.toList.isEmpty := by rw [ByteArray.toList_eq]
theorem sgF_emp (o : Int) : (sgF o).data.toList.isEmpty = !opK o := by
  unfold sgF opK
  repeat' split
  all_goals first | (subst_vars; rfl) | skip
  rw [decide_eq_false (by omega)]
  rfl
set_option maxHeartbeats 3200000 in
set_option maxRecDepth 20000 in
theorem pFormed22 (n : ByteArray) (o : Int) (v : ByteArray) (w : World) (hn : n.size ≤ 281474976710656) (hv : v.size ≤ 281474976710656) (hT : OpT w) :
    Calls Tryd.prog 11 #[.agg #[.string n, .int .i64 o, .string v]] w fun e w' => e = .returned (.bool (relB n o v)) ∧ Below w.heap.size w w' := by
  have HN : Hid (∀ V, Calls Tryd.prog 28 #[.string n] V fun e w' => e = .returned (.bool (rnmF n.data.toList)) ∧ w' = V) := fun V => pName22 n V hn
  have HL : Hid (∀ V, Calls Tryd.prog 38 #[.string v] V fun e w' => e = .returned (.bool (okS v)) ∧ Below V.heap.size V w') := fun V => legal20_any v V hv
  have HF : Hid (relB n o v = (rnmF n.data.toList && (if o = 0 then v.toList.isEmpty else opK o && okS v))) := by
    show _ = _
    unfold relB
    rw [sgF_emp, emp22, Bool.not_not]
  generalize relB n o v = F at *
  generalize rnmF n.data.toList = N at *
  generalize okS v = V at *
  have HO0 : Hid (∀ V, OpT V → Calls Tryd.prog 37 #[.int .i64 o] V fun e w' => OpAns V w' e (if opK o = true then o else 0) (sgF o) (opK o)) := fun V h => ofOp22 o V h
  go_enter Tryd.func11, Tryd.ntmps11
  go_wp2_with fail
  have HBa : Hid (Below w.heap.size w (w.alloc (.cells #[.string n, .int .i64 o, .string v] 34))) := Below.alloc (Below.refl _ _) (Nat.le_refl _) _
  have HTa : Hid (OpT (w.alloc (.cells #[.string n, .int .i64 o, .string v] 34))) := hT.blw HBa.out
  have HQ : Hid (Rq (w.alloc (.cells #[.string n, .int .i64 o, .string v] 34)) w.heap.size n o v) := Rq.newS _ _ _ _ _ rfl
  clear hT
  generalize w.alloc (.cells #[.string n, .int .i64 o, .string v] 34) = W at *
  have HO := HO0.out W HTa.out
  have hD := HQ.out.lt
  have c1 := HQ.out.c1
  have c2 := HQ.out.c2
  have HO' : Hid (Calls Tryd.prog 37 #[.int .i64 o] W fun e w' => OpAns W w' e (if opK o = true then o else 0) (sgF o) (opK o)) := HO
  clear HO HO0 HTa
  generalize (if opK o = true then o else 0) = O2 at *
  generalize sgF o = S2 at *
  generalize opK o = K at *
  refine (HN.out _).mono ?_
  rintro e w9 ⟨rfl, h9⟩
  have h9s := h9.symm; clear h9; subst h9s
  cases N
  · have HE : Hid (F = false) := HF.out
    clear HF
    go_wp2
    go_ret
    exact ⟨ret_bool HE.out.symm, HBa.out⟩
  by_cases h0 : o = 0
  · subst h0
    have HE : Hid (F = v.toList.isEmpty) := HF.out
    clear HF
    cases hb : v.toList.isEmpty
    · have hb2 : ¬ v.toList = [] := by simpa using hb
      have HE2 : Hid (F = false) := by show _ = _; rw [HE.out, hb]
      clear HE
      go_wp2
      go_ret
      exact ⟨ret_bool HE2.out.symm, HBa.out⟩
    · have hb2 : v.toList = [] := by simpa using hb
      have HE2 : Hid (F = true) := by show _ = _; rw [HE.out, hb]
      clear HE
      go_wp2
      go_ret
      exact ⟨ret_bool HE2.out.symm, HBa.out⟩
  · have d0 : (o == 0) = false := by simpa using h0
    have HE : Hid (F = (K && V)) := by show _ = _; rw [HF.out, if_neg h0]; rfl
    clear HF h0
    go_upto_region 5 with fail
    go_wp2_with fail
    refine HO'.out.mono ?_
    rintro e w2 ⟨l, m, rfl, b2⟩
    have HQ2 : Hid (Rq (w2.alloc (.cells #[.int .i64 O2, .string S2, .int .i64 l, .int .i64 m] 76)) w.heap.size n o v) := HQ.out.below (Below.alloc b2 b2.size _) hD
    have HB2 : Hid (Below w.heap.size w (w2.alloc (.cells #[.int .i64 O2, .string S2, .int .i64 l, .int .i64 m] 76))) := HBa.out.trans ((Below.alloc b2 b2.size _).mono HBa.out.size)
    clear b2 c1 c2 HQ HBa HO'
    cases K
    · have HE2 : Hid (F = false) := HE.out
      go_wp2
      go_ret
      exact ⟨ret_bool HE2.out.symm, HB2.out⟩
    · have HE2 : Hid (F = V) := HE.out
      clear HE
      have q2 := HQ2.out.c2
      go_wp2_with (go_at_call 38; refine (HL.out _).mono ?_; rintro e w3 ⟨rfl, b3⟩; have HB3 : Hid (Below w.heap.size w w3) := HB2.out.trans (b3.mono HB2.out.size); clear b3)
      go_ret
      exact ⟨ret_bool HE2.out.symm, HB3.out⟩

end Go.Proofs.YtmfcaoacklbkoaaDoor
set_option linter.unusedSimpArgs false
set_option linter.unusedVariables false
namespace Go.Proofs.YtmfcaoacklbkoaaDoor
open Go Go.RowKit

theorem LkA.trans22 {A B C : World} {D : Nat} {s : ByteArray} {a b : Nat} (h : LkA A B D s a) (k : LkA B C D s b) : LkA A C D s b := ⟨k.1, gr_trans22 h.2 k.2⟩
theorem LkA.blw22 {A B C : World} {D : Nat} {s : ByteArray} {a : Nat} (h : LkA A B D s a) (k : Below B.heap.size B C) : LkA A C D s a := ⟨h.1.blw k, gr_trans22 h.2 (gr_b22 k)⟩
theorem LkA.put22 {A B : World} {D : Nat} {s : ByteArray} {a : Nat} (h : LkA A B D s a) (j : Nat) : LkA A (B.setCell ⟨D, 1, none⟩ (.int .i64 j)) D s j := ⟨h.1.s1 j, gr_set22 h.2 _ _⟩
theorem two_new22 (W : World) (x y : Value) (T : TypeId) : ∀ j u, [x, y][j]? = some u → (W.alloc (.cells #[x, y] T)).cell? ⟨W.heap.size, j, none⟩ = some u := fun j u h => by
  have e := World.alloc_heap_new W (.cells #[x, y] T)
  rcases j with _ | _ | j
  · simp at h; subst h; exact cell_of22 e 0
  · simp at h; subst h; exact cell_of22 e 1
  · simp at h
/-- run of kinds in a row that was just made -/
theorem run22w (s : ByteArray) (k D : Nat) (W : World) (hR : Rx W D s k) (hk : k ≤ s.size) (hs : s.size ≤ 281474976710656) :
    Calls Tryd.prog 52 #[.pointer (some ⟨D, 0, none⟩), .slice (some ⟨W.heap.size, 0, none⟩) 2 2] (W.alloc (.cells #[.int .i64 2, .int .i64 3] 82)) fun e w' => e = .returned (.string (s.extract k (runF wrdZ s.data.toList k))) ∧ Below W.heap.size W w' := by
  have hb : Below W.heap.size W (W.alloc (.cells #[.int .i64 2, .int .i64 3] 82)) := Below.alloc (Below.refl _ _) (Nat.le_refl _) _
  refine (run22 [2, 3] wrdZ s k D W.heap.size 2 _ kd_wrd (hR.blw hb) hk hs (by decide) (by decide) (by decide) (fun j hj => ?_)).mono fun e w' ⟨q1, q2⟩ => ⟨q1, hb.trans (q2.mono hb.size)⟩
  refine two_new22 W _ _ _ j _ ?_
  have : j = 0 ∨ j = 1 := by simp at hj; omega
  rcases this with rfl | rfl <;> rfl
theorem run22s (s : ByteArray) (k D : Nat) (W : World) (hR : Rx W D s k) (hk : k ≤ s.size) (hs : s.size ≤ 281474976710656) :
    Calls Tryd.prog 52 #[.pointer (some ⟨D, 0, none⟩), .slice (some ⟨W.heap.size, 0, none⟩) 1 1] (W.alloc (.cells #[.int .i64 3] 82)) fun e w' => e = .returned (.string (s.extract k (runF sgnZ s.data.toList k))) ∧ Below W.heap.size W w' := by
  have hb : Below W.heap.size W (W.alloc (.cells #[.int .i64 3] 82)) := Below.alloc (Below.refl _ _) (Nat.le_refl _) _
  refine (run22 [3] sgnZ s k D W.heap.size 1 _ kd_sgn (hR.blw hb) hk hs (by decide) (by decide) (by decide) (fun j hj => ?_)).mono fun e w' ⟨q1, q2⟩ => ⟨q1, hb.trans (q2.mono hb.size)⟩
  have : j = 0 := by simpa using hj
  subst this
  exact cell_of22 (World.alloc_heap_new W _) 0

/-- a word: what is read, the error, the place -/
def wdF (s : ByteArray) (a : Nat) (ok : Bool) (wrong : Int) : ByteArray × Int × Nat :=
  if runF wrdZ s.data.toList a = a then (⟨#[]⟩, 220, a) else if ok = false then (⟨#[]⟩, wrong, a) else (s.extract a (runF wrdZ s.data.toList a), 0, runF wrdZ s.data.toList a)
def wdN (s : ByteArray) (a : Nat) (wrong : Int) : ByteArray × Int × Nat := wdF s a (rnmF (s.extract a (runF wrdZ s.data.toList a)).data.toList) wrong
def wdV (s : ByteArray) (a : Nat) (wrong : Int) : ByteArray × Int × Nat := wdF s a (okS (s.extract a (runF wrdZ s.data.toList a))) wrong
theorem ext_emp22 {s : ByteArray} {a t : Nat} (h1 : a ≤ t) (h2 : t ≤ s.size) : (s.extract a t).toList.isEmpty = decide (t = a) := by
  have hz : (s.extract a t).data.toList.length = t - a := by rw [size20, ByteArray.size_extract]; omega
  rw [ByteArray.toList_eq]
  by_cases e : t = a
  · rw [decide_eq_true e]
    have : (s.extract a t).data.toList = [] := List.length_eq_zero_iff.1 (by omega)
    rw [this]; rfl
  · rw [decide_eq_false e]
    cases h : (s.extract a t).data.toList with
    | nil => rw [h] at hz; simp at hz; omega
    | cons x r => rfl
set_option maxHeartbeats 3200000 in
set_option maxRecDepth 20000 in
theorem wordN22 (s : ByteArray) (k D : Nat) (wrong : Int) (w : World) (hR : Rx w D s k) (hk : k ≤ s.size) (hs : s.size ≤ 281474976710656) :
    Calls Tryd.prog 47 #[.pointer (some ⟨D, 0, none⟩), .func (.func 28) #[] #[], .int .i64 wrong] w fun e w' => e = .returned (.tuple #[.string (wdN s (runF gapZ s.data.toList k) wrong).1, .int .i64 (wdN s (runF gapZ s.data.toList k) wrong).2.1]) ∧ LkA w w' D s (wdN s (runF gapZ s.data.toList k) wrong).2.2 := by
  have has := runF_le22 gapZ s hk
  have HLo : Hid (Calls Tryd.prog 44 #[.pointer (some ⟨D, 0, none⟩)] w fun e w' => e = .returned (.int .i64 (lkF s (runF gapZ s.data.toList k))) ∧ LkA w w' D s (runF gapZ s.data.toList k)) := look22 s k D w hR hk hs
  clear hR hk
  generalize runF gapZ s.data.toList k = a at *
  have hat := runF_ge wrdZ s.data.toList a
  have hts := runF_le22 wrdZ s has
  have HRun : Hid (∀ W, Rx W D s a → Calls Tryd.prog 52 #[.pointer (some ⟨D, 0, none⟩), .slice (some ⟨W.heap.size, 0, none⟩) 2 2] (W.alloc (.cells #[.int .i64 2, .int .i64 3] 82)) fun e w' => e = .returned (.string (s.extract a (runF wrdZ s.data.toList a))) ∧ Below W.heap.size W w') := fun W h => run22w s a D W h has hs
  have HSu : Hid (∀ V, Calls Tryd.prog 28 #[.string (s.extract a (runF wrdZ s.data.toList a))] V fun e w' => e = .returned (.bool (rnmF (s.extract a (runF wrdZ s.data.toList a)).data.toList)) ∧ w' = V) := fun V => pName22 _ V (by rw [ByteArray.size_extract]; omega)
  have HEm := ext_emp22 hat hts
  have HWd : Hid (wdN s a wrong = if runF wrdZ s.data.toList a = a then (⟨#[]⟩, 220, a) else if (rnmF (s.extract a (runF wrdZ s.data.toList a)).data.toList) = false then (⟨#[]⟩, wrong, a) else (s.extract a (runF wrdZ s.data.toList a), 0, runF wrdZ s.data.toList a)) := rfl
  have hG : (s.extract a (runF wrdZ s.data.toList a)).size = runF wrdZ s.data.toList a - a := by rw [ByteArray.size_extract]; omega
  generalize wdN s a wrong = R at *
  generalize rnmF (s.extract a (runF wrdZ s.data.toList a)).data.toList = ok at *
  generalize runF wrdZ s.data.toList a = t at *
  have HCl : Hid (∀ V, Calls Tryd.prog 54 #[.string (s.extract a t)] V fun e w' => e = .returned (.string (s.extract a t)) ∧ Below V.heap.size V w') := fun V => clone20_any _ V (by omega)
  generalize s.extract a t = G at *
  go_enter Tryd.func47, Tryd.ntmps47
  go_wp2_with fail
  refine HLo.out.mono ?_
  rintro e w1 ⟨rfl, h1⟩
  have HX1 : Hid (LkA w w1 D s a) := h1
  clear h1 HLo
  have HRn : Hid (Calls Tryd.prog 52 #[.pointer (some ⟨D, 0, none⟩), .slice (some ⟨w1.heap.size, 0, none⟩) 2 2] (w1.alloc (.cells #[.int .i64 2, .int .i64 3] 82)) fun e w' => e = .returned (.string G) ∧ Below w1.heap.size w1 w') := HRun.out w1 HX1.out.1
  clear HRun
  go_wp2_with fail
  refine HRn.out.mono ?_
  rintro e w2 ⟨rfl, b2⟩
  have HX2 : Hid (LkA w w2 D s a) := HX1.out.blw22 b2
  clear b2 HX1 HRn
  by_cases hta : t = a
  · have hb : G.toList.isEmpty = true := by rw [HEm, decide_eq_true hta]
    have hb2 : G.toList = [] := by simpa using hb
    have HE : Hid (R = (⟨#[]⟩, 220, a)) := by show _ = _; rw [HWd.out, if_pos hta]
    clear HWd HEm hta HSu HCl
    go_wp2
    go_returns
    exact ⟨by rw [HE.out]; rfl, by rw [HE.out]; exact HX2.out⟩
  have hb : G.toList.isEmpty = false := by rw [HEm, decide_eq_false hta]
  have hb2 : ¬ G.toList = [] := by simpa using hb
  have HWd2 : Hid (R = if ok = false then (⟨#[]⟩, wrong, a) else (G, 0, t)) := by show _ = _; rw [HWd.out, if_neg hta]
  clear HWd HEm hta
  go_wp2_with fail
  refine (HSu.out _).mono ?_
  rintro e w3 ⟨rfl, b3⟩
  have HX3 : Hid (LkA w w3 D s a) := by rw [b3]; exact HX2.out
  clear b3 HX2 HSu
  cases ok
  · have HE : Hid (R = (⟨#[]⟩, wrong, a)) := HWd2.out
    clear HWd2 HCl
    go_wp2
    go_returns
    exact ⟨by rw [HE.out]; rfl, by rw [HE.out]; exact HX3.out⟩
  have HE : Hid (R = (G, 0, t)) := HWd2.out
  have c1 := HX3.out.1.c1
  have z1 := HX3.out.1.fz 1
  obtain ⟨m, hm⟩ : ∃ m, m = G.size := ⟨_, rfl⟩
  have hw1 : IntKind.i64.wrap ((a : Int) + (m : Int)) = (t : Int) := by rw [IntKind.wrap_i64]; omega
  have hmm : G.size = m := hm.symm
  clear hm HWd2 hG
  go_upto_region 8 with fail
  have HX4 : Hid (LkA w (w3.setCell ⟨D, 1, none⟩ (.int .i64 t)) D s t) := HX3.out.put22 t
  clear c1 z1 hw1 HX3
  generalize w3.setCell ⟨D, 1, none⟩ (.int .i64 t) = w4 at *
  go_wp2_with fail
  refine (HCl.out _).mono ?_
  rintro e w5 ⟨rfl, b5⟩
  have HX5 : Hid (LkA w w5 D s t) := HX4.out.blw22 b5
  clear b5
  go_wp2
  go_returns
  exact ⟨by rw [HE.out]; rfl, by rw [HE.out]; exact HX5.out⟩
set_option maxHeartbeats 3200000 in
set_option maxRecDepth 20000 in
theorem wordV22 (s : ByteArray) (k D : Nat) (wrong : Int) (w : World) (hR : Rx w D s k) (hk : k ≤ s.size) (hs : s.size ≤ 281474976710656) :
    Calls Tryd.prog 47 #[.pointer (some ⟨D, 0, none⟩), .func (.func 38) #[] #[], .int .i64 wrong] w fun e w' => e = .returned (.tuple #[.string (wdV s (runF gapZ s.data.toList k) wrong).1, .int .i64 (wdV s (runF gapZ s.data.toList k) wrong).2.1]) ∧ LkA w w' D s (wdV s (runF gapZ s.data.toList k) wrong).2.2 := by
  have has := runF_le22 gapZ s hk
  have HLo : Hid (Calls Tryd.prog 44 #[.pointer (some ⟨D, 0, none⟩)] w fun e w' => e = .returned (.int .i64 (lkF s (runF gapZ s.data.toList k))) ∧ LkA w w' D s (runF gapZ s.data.toList k)) := look22 s k D w hR hk hs
  clear hR hk
  generalize runF gapZ s.data.toList k = a at *
  have hat := runF_ge wrdZ s.data.toList a
  have hts := runF_le22 wrdZ s has
  have HRun : Hid (∀ W, Rx W D s a → Calls Tryd.prog 52 #[.pointer (some ⟨D, 0, none⟩), .slice (some ⟨W.heap.size, 0, none⟩) 2 2] (W.alloc (.cells #[.int .i64 2, .int .i64 3] 82)) fun e w' => e = .returned (.string (s.extract a (runF wrdZ s.data.toList a))) ∧ Below W.heap.size W w') := fun W h => run22w s a D W h has hs
  have HSu : Hid (∀ V, Calls Tryd.prog 38 #[.string (s.extract a (runF wrdZ s.data.toList a))] V fun e w' => e = .returned (.bool (okS (s.extract a (runF wrdZ s.data.toList a)))) ∧ Below V.heap.size V w') := fun V => legal20_any _ V (by rw [ByteArray.size_extract]; omega)
  have HEm := ext_emp22 hat hts
  have HWd : Hid (wdV s a wrong = if runF wrdZ s.data.toList a = a then (⟨#[]⟩, 220, a) else if (okS (s.extract a (runF wrdZ s.data.toList a))) = false then (⟨#[]⟩, wrong, a) else (s.extract a (runF wrdZ s.data.toList a), 0, runF wrdZ s.data.toList a)) := rfl
  have hG : (s.extract a (runF wrdZ s.data.toList a)).size = runF wrdZ s.data.toList a - a := by rw [ByteArray.size_extract]; omega
  generalize wdV s a wrong = R at *
  generalize okS (s.extract a (runF wrdZ s.data.toList a)) = ok at *
  generalize runF wrdZ s.data.toList a = t at *
  have HCl : Hid (∀ V, Calls Tryd.prog 54 #[.string (s.extract a t)] V fun e w' => e = .returned (.string (s.extract a t)) ∧ Below V.heap.size V w') := fun V => clone20_any _ V (by omega)
  generalize s.extract a t = G at *
  go_enter Tryd.func47, Tryd.ntmps47
  go_wp2_with fail
  refine HLo.out.mono ?_
  rintro e w1 ⟨rfl, h1⟩
  have HX1 : Hid (LkA w w1 D s a) := h1
  clear h1 HLo
  have HRn : Hid (Calls Tryd.prog 52 #[.pointer (some ⟨D, 0, none⟩), .slice (some ⟨w1.heap.size, 0, none⟩) 2 2] (w1.alloc (.cells #[.int .i64 2, .int .i64 3] 82)) fun e w' => e = .returned (.string G) ∧ Below w1.heap.size w1 w') := HRun.out w1 HX1.out.1
  clear HRun
  go_wp2_with fail
  refine HRn.out.mono ?_
  rintro e w2 ⟨rfl, b2⟩
  have HX2 : Hid (LkA w w2 D s a) := HX1.out.blw22 b2
  clear b2 HX1 HRn
  by_cases hta : t = a
  · have hb : G.toList.isEmpty = true := by rw [HEm, decide_eq_true hta]
    have hb2 : G.toList = [] := by simpa using hb
    have HE : Hid (R = (⟨#[]⟩, 220, a)) := by show _ = _; rw [HWd.out, if_pos hta]
    clear HWd HEm hta HSu HCl
    go_wp2
    go_returns
    exact ⟨by rw [HE.out]; rfl, by rw [HE.out]; exact HX2.out⟩
  have hb : G.toList.isEmpty = false := by rw [HEm, decide_eq_false hta]
  have hb2 : ¬ G.toList = [] := by simpa using hb
  have HWd2 : Hid (R = if ok = false then (⟨#[]⟩, wrong, a) else (G, 0, t)) := by show _ = _; rw [HWd.out, if_neg hta]
  clear HWd HEm hta
  go_wp2_with fail
  refine (HSu.out _).mono ?_
  rintro e w3 ⟨rfl, b3⟩
  have HX3 : Hid (LkA w w3 D s a) := HX2.out.blw22 b3
  clear b3 HX2 HSu
  cases ok
  · have HE : Hid (R = (⟨#[]⟩, wrong, a)) := HWd2.out
    clear HWd2 HCl
    go_wp2
    go_returns
    exact ⟨by rw [HE.out]; rfl, by rw [HE.out]; exact HX3.out⟩
  have HE : Hid (R = (G, 0, t)) := HWd2.out
  have c1 := HX3.out.1.c1
  have z1 := HX3.out.1.fz 1
  obtain ⟨m, hm⟩ : ∃ m, m = G.size := ⟨_, rfl⟩
  have hw1 : IntKind.i64.wrap ((a : Int) + (m : Int)) = (t : Int) := by rw [IntKind.wrap_i64]; omega
  have hmm : G.size = m := hm.symm
  clear hm HWd2 hG
  go_upto_region 8 with fail
  have HX4 : Hid (LkA w (w3.setCell ⟨D, 1, none⟩ (.int .i64 t)) D s t) := HX3.out.put22 t
  clear c1 z1 hw1 HX3
  generalize w3.setCell ⟨D, 1, none⟩ (.int .i64 t) = w4 at *
  go_wp2_with fail
  refine (HCl.out _).mono ?_
  rintro e w5 ⟨rfl, b5⟩
  have HX5 : Hid (LkA w w5 D s t) := HX4.out.blw22 b5
  clear b5
  go_wp2
  go_returns
  exact ⟨by rw [HE.out]; rfl, by rw [HE.out]; exact HX5.out⟩

end Go.Proofs.YtmfcaoacklbkoaaDoor
set_option linter.unusedSimpArgs false
set_option linter.unusedVariables false
namespace Go.Proofs.YtmfcaoacklbkoaaDoor
open Go Go.RowKit

theorem OpT.lk {W W' : World} {D : Nat} {s s' : ByteArray} {k a : Nat} (hT : OpT W) (hR : Rx W D s k) (h : LkA W W' D s' a) : OpT W' := by
  obtain ⟨t, e⟩ := hT
  refine ⟨t, (h.2.block _ (OpT.lt ⟨t, e⟩) ?_).trans e⟩
  intro q
  injection q with q
  have e2 : W.heap[D]? = some (.cells #[.string s, .int .i64 k] 59 (0, 0)) := hR
  rw [← q] at e2
  rw [e] at e2
  injection e2 with e2
  injection e2 with e3
  have := congrArg Array.size e3
  simp [opsC] at this
/-- an operator: what is read, the error, the place -/
def oprF (s : ByteArray) (a : Nat) : Int × Int × Nat :=
  if opF (s.extract a (runF sgnZ s.data.toList a)) = 0 then (0, 220, a) else (opF (s.extract a (runF sgnZ s.data.toList a)), 0, runF sgnZ s.data.toList a)
set_option maxHeartbeats 3200000 in
set_option maxRecDepth 20000 in
theorem operator22 (s : ByteArray) (k D : Nat) (w : World) (hR : Rx w D s k) (hT : OpT w) (hk : k ≤ s.size) (hs : s.size ≤ 281474976710656) :
    Calls Tryd.prog 49 #[.pointer (some ⟨D, 0, none⟩)] w fun e w' => e = .returned (.tuple #[.int .i64 (oprF s (runF gapZ s.data.toList k)).1, .int .i64 (oprF s (runF gapZ s.data.toList k)).2.1]) ∧ LkA w w' D s (oprF s (runF gapZ s.data.toList k)).2.2 := by
  have has := runF_le22 gapZ s hk
  have HLo : Hid (Calls Tryd.prog 44 #[.pointer (some ⟨D, 0, none⟩)] w fun e w' => e = .returned (.int .i64 (lkF s (runF gapZ s.data.toList k))) ∧ LkA w w' D s (runF gapZ s.data.toList k)) := look22 s k D w hR hk hs
  have HOT : Hid (∀ w' a, LkA w w' D s a → OpT w') := fun w' a h => hT.lk hR h
  clear hR hk hT
  generalize runF gapZ s.data.toList k = a at *
  have hat := runF_ge sgnZ s.data.toList a
  have hts := runF_le22 sgnZ s has
  have HRun : Hid (∀ W, Rx W D s a → Calls Tryd.prog 52 #[.pointer (some ⟨D, 0, none⟩), .slice (some ⟨W.heap.size, 0, none⟩) 1 1] (W.alloc (.cells #[.int .i64 3] 82)) fun e w' => e = .returned (.string (s.extract a (runF sgnZ s.data.toList a))) ∧ Below W.heap.size W w') := fun W h => run22s s a D W h has hs
  have HOf : Hid (∀ V, OpT V → Calls Tryd.prog 55 #[.string (s.extract a (runF sgnZ s.data.toList a))] V fun e w' => OpAns V w' e (opF (s.extract a (runF sgnZ s.data.toList a))) (sgF (opF (s.extract a (runF sgnZ s.data.toList a)))) (decide (opF (s.extract a (runF sgnZ s.data.toList a)) ≠ 0))) := fun V h => ofText22 _ V h
  have HWd : Hid (oprF s a = if opF (s.extract a (runF sgnZ s.data.toList a)) = 0 then (0, 220, a) else (opF (s.extract a (runF sgnZ s.data.toList a)), 0, runF sgnZ s.data.toList a)) := rfl
  have hG : (s.extract a (runF sgnZ s.data.toList a)).size = runF sgnZ s.data.toList a - a := by rw [ByteArray.size_extract]; omega
  generalize oprF s a = R at *
  generalize runF sgnZ s.data.toList a = t at *
  generalize s.extract a t = G at *
  generalize sgF (opF G) = S at *
  generalize opF G = o at *
  go_enter Tryd.func49, Tryd.ntmps49
  go_wp2_with fail
  refine HLo.out.mono ?_
  rintro e w1 ⟨rfl, h1⟩
  have HX1 : Hid (LkA w w1 D s a) := h1
  clear h1 HLo
  have HRn : Hid (Calls Tryd.prog 52 #[.pointer (some ⟨D, 0, none⟩), .slice (some ⟨w1.heap.size, 0, none⟩) 1 1] (w1.alloc (.cells #[.int .i64 3] 82)) fun e w' => e = .returned (.string G) ∧ Below w1.heap.size w1 w') := HRun.out w1 HX1.out.1
  clear HRun
  go_wp2_with fail
  refine HRn.out.mono ?_
  rintro e w2 ⟨rfl, b2⟩
  have HX2 : Hid (LkA w w2 D s a) := HX1.out.blw22 b2
  have HT2 : Hid (OpT w2) := HOT.out _ _ HX2.out
  clear b2 HX1 HRn HOT
  go_wp2_with fail
  refine (HOf.out _ HT2.out).mono ?_
  rintro e w3 ⟨l, m, rfl, b3⟩
  have HX3 : Hid (LkA w (w3.alloc (.cells #[.int .i64 o, .string S, .int .i64 l, .int .i64 m] 76)) D s a) := HX2.out.blw22 (Below.alloc b3 b3.size _)
  have HO3 : Hid (Oq (w3.alloc (.cells #[.int .i64 o, .string S, .int .i64 l, .int .i64 m] 76)) w3.heap.size o S l m) := Oq.newS _ _ _ _ _
  have HN3 : Hid (D ≠ w3.heap.size) := by
    have := HX2.out.1.lt
    have := b3.size
    show ¬ _ = _
    omega
  clear b3 HX2 HT2 HOf
  by_cases h0 : o = 0
  · have HE : Hid (R = (0, 220, a)) := by show _ = _; rw [HWd.out, if_pos h0]
    have hd : decide (o ≠ 0) = false := by simpa using h0
    rw [hd]
    clear HWd h0 hd
    go_wp2
    go_returns
    exact ⟨by rw [HE.out]; rfl, by rw [HE.out]; exact HX3.out⟩
  have HE : Hid (R = (o, 0, t)) := by show _ = _; rw [HWd.out, if_neg h0]
  have hd : decide (o ≠ 0) = true := by simpa using h0
  rw [hd]
  clear HWd h0 hd
  obtain ⟨m', hm⟩ : ∃ m, m = G.size := ⟨_, rfl⟩
  have hw1 : IntKind.i64.wrap ((a : Int) + (m' : Int)) = (t : Int) := by rw [IntKind.wrap_i64]; omega
  have hmm : G.size = m' := hm.symm
  clear hm hG
  go_upto_region 4 with fail
  generalize w3.alloc (.cells #[.int .i64 o, .string S, .int .i64 l, .int .i64 m] 76) = w4 at *
  generalize w3.heap.size = O4 at *
  have c1 := HX3.out.1.c1
  have z1 := HX3.out.1.fz 1
  go_upto_region 7 with fail
  have HX5 : Hid (LkA w (w4.setCell ⟨D, 1, none⟩ (.int .i64 t)) D s t) := HX3.out.put22 t
  have HO5 : Hid (Oq (w4.setCell ⟨D, 1, none⟩ (.int .i64 t)) O4 o S l m) := (Below.heap_setCell _ _ _ _ (Ne.symm HN3.out)).trans HO3.out
  clear c1 z1 HX3 HO3 hw1 hmm
  generalize w4.setCell ⟨D, 1, none⟩ (.int .i64 t) = w5 at *
  have c0 := HO5.out.c0
  go_wp2
  go_returns
  exact ⟨by rw [HE.out]; rfl, by rw [HE.out]; exact HX5.out⟩

end Go.Proofs.YtmfcaoacklbkoaaDoor
set_option linter.unusedSimpArgs false
set_option linter.unusedVariables false
namespace Go.Proofs.YtmfcaoacklbkoaaDoor
open Go Go.RowKit

/-- all three cells are laid -/
def st3 (W : World) (D : Nat) (n : ByteArray) (o : Int) (v : ByteArray) : World := ((W.setCell ⟨D, 0, none⟩ (.string n)).setCell ⟨D, 1, none⟩ (.int .i64 o)).setCell ⟨D, 2, none⟩ (.string v)
theorem st3_q {W : World} {D : Nat} {n n' v v' : ByteArray} {o o' : Int} (h : Rq W D n o v) : Rq (st3 W D n' o' v') D n' o' v' := ((h.s0 _).s1 _).s2 _
theorem gr_new22 {A B : World} {g N : Nat} (h : A.grownBy B (some g)) (hN : A.heap.size ≤ N) (k : Nat) (x : Value) : A.grownBy (B.setCell ⟨N, k, none⟩ x) (some g) :=
  ⟨h.os, h.tape, h.output, by rw [show (B.setCell ⟨N, k, none⟩ x).heap.size = B.heap.size by simp]; exact h.size, fun i hi hn => (Below.heap_setCell _ _ _ _ (by show i ≠ N; omega)).trans (h.block i hi hn)⟩
theorem LkA.off22 {A B : World} {D N : Nat} {s : ByteArray} {a : Nat} (h : LkA A B D s a) (hN : A.heap.size ≤ N) (hD : D ≠ N) (k : Nat) (x : Value) : LkA A (B.setCell ⟨N, k, none⟩ x) D s a :=
  ⟨(Below.heap_setCell _ _ _ _ hD).trans h.1, gr_new22 h.2 hN k x⟩
theorem st3_l {A B : World} {D N : Nat} {s : ByteArray} {a : Nat} (h : LkA A B D s a) (hN : A.heap.size ≤ N) (hD : D ≠ N) (n : ByteArray) (o : Int) (v : ByteArray) : LkA A (st3 B N n o v) D s a :=
  ((h.off22 hN hD _ _).off22 hN hD _ _).off22 hN hD _ _
theorem ret_r2 {fn : Func} {p u : Tmp} {tmps : Array Value} {W : World} {D : Nat} {n v : ByteArray} {o : Int} (h : fn.results = #[.cell p 34, .tmp u]) (hp : tmps.getD p undef = .pointer (some ⟨D, 0, none⟩)) (hb : Rq W D n o v) :
    (results fn tmps).run Tryd.prog W = .ok (.tuple #[.agg #[.string n, .int .i64 o, .string v], tmps.getD u undef]) W := by
  have c0 := hb.c0
  have c1 := hb.c1
  have c2 := hb.c2
  simp only [Array.getD_eq_getD_getElem?] at hp ⊢
  simp [results, h, hp, go_sem, c0, c1, c2]
/-- between two pieces: the reader, the answer's box, the table -/
structure SR (w W : World) (D : Nat) (s : ByteArray) (q N : Nat) : Prop where
  x : LkA w W D s q
  b : Rq W N ⟨#[]⟩ 0 ⟨#[]⟩
  t : OpT W
theorem SR.step22 {w W W' : World} {D : Nat} {s : ByteArray} {q q' N : Nat} (h : SR w W D s q N) (hN : D ≠ N) (k : LkA W W' D s q') : SR w W' D s q' N :=
  ⟨h.x.trans22 k, (k.2.block N h.b.lt (fun e => hN (by injection e with e; exact e.symm))).trans h.b, h.t.lk h.x.1 k⟩
/-- what relation answers -/
def RlAns (w w' : World) (e : Ending) (D : Nat) (s : ByteArray) (R : On1) : Prop :=
  ∃ rn ro rv q, e = .returned (.tuple #[.agg #[.string rn, .int .i64 ro, .string rv], .int .i64 R.e]) ∧ LkA w w' D s q ∧ q ≤ s.size ∧ (R.e = 0 → rn = R.n ∧ ro = R.o ∧ rv = R.v ∧ runF gapZ s.data.toList q = R.k) ∧ (R.e ≠ 0 → q = R.k)
theorem runF_stop {p : Int → Bool} {s : ByteArray} {k : Nat} (h : k ≤ s.size) : runF p s.data.toList (runF p s.data.toList k) = runF p s.data.toList k := by
  induction hn : s.size - k generalizing k with
  | zero =>
    have e : k = s.size := by omega
    have := runF_end p s.data.toList k (by rw [size20]; omega)
    rw [this, this]
  | succ n ih =>
    have hlt : k < s.size := by omega
    cases hb : p ((s[k]'hlt).toNat : Int)
    · rw [runF_no hlt hb, runF_no hlt hb]
    · rw [runF_yes hlt hb]; exact ih (by omega) (by omega)

set_option maxHeartbeats 6400000 in
set_option maxRecDepth 20000 in
theorem relation22 (s : ByteArray) (k D : Nat) (w : World) (hR : Rx w D s k) (hT : OpT w) (hk : k ≤ s.size) (hs : s.size ≤ 281474976710656) :
    Calls Tryd.prog 32 #[.pointer (some ⟨D, 0, none⟩)] w fun e w' => RlAns w w' e D s (oneF s (runF gapZ s.data.toList k)) := by
  obtain ⟨R, hRr⟩ : ∃ R, R = oneF s (runF gapZ s.data.toList k) := ⟨_, rfl⟩
  rw [← hRr]
  have HRl : Hid (∀ (p : Int → Bool) (j : Nat), j ≤ s.size → j ≤ runF p s.data.toList j ∧ runF p s.data.toList j ≤ s.size) := fun p j hj => ⟨runF_ge p _ j, runF_le22 p s hj⟩
  have HWN : Hid (∀ W j, Rx W D s j → j ≤ s.size → Calls Tryd.prog 47 #[.pointer (some ⟨D, 0, none⟩), .func (.func 28) #[] #[], .int .i64 230] W fun e w' => e = .returned (.tuple #[.string (wdN s (runF gapZ s.data.toList j) 230).1, .int .i64 (wdN s (runF gapZ s.data.toList j) 230).2.1]) ∧ LkA W w' D s (wdN s (runF gapZ s.data.toList j) 230).2.2) := fun W j h hj => wordN22 s j D 230 W h hj hs
  have HWV : Hid (∀ W j, Rx W D s j → j ≤ s.size → Calls Tryd.prog 47 #[.pointer (some ⟨D, 0, none⟩), .func (.func 38) #[] #[], .int .i64 200] W fun e w' => e = .returned (.tuple #[.string (wdV s (runF gapZ s.data.toList j) 200).1, .int .i64 (wdV s (runF gapZ s.data.toList j) 200).2.1]) ∧ LkA W w' D s (wdV s (runF gapZ s.data.toList j) 200).2.2) := fun W j h hj => wordV22 s j D 200 W h hj hs
  have HPs : Hid (∀ W j (K : Int), Rx W D s j → j ≤ s.size → Calls Tryd.prog 48 #[.pointer (some ⟨D, 0, none⟩), .int .i64 K] W fun e w' => e = .returned (.bool (lkF s (runF gapZ s.data.toList j) == K)) ∧ LkA W w' D s (psA s (runF gapZ s.data.toList j) K)) := fun W j K h hj => pass22 s j D K W h hj hs
  have HOp : Hid (∀ W j, Rx W D s j → OpT W → j ≤ s.size → Calls Tryd.prog 49 #[.pointer (some ⟨D, 0, none⟩)] W fun e w' => e = .returned (.tuple #[.int .i64 (oprF s (runF gapZ s.data.toList j)).1, .int .i64 (oprF s (runF gapZ s.data.toList j)).2.1]) ∧ LkA W w' D s (oprF s (runF gapZ s.data.toList j)).2.2) := fun W j h ht hj => operator22 s j D W h ht hj hs
  have HDN : Hid (D ≠ w.heap.size) := by have := hR.lt; show ¬ _ = _; omega
  have HN : Hid (w.heap.size ≤ w.heap.size) := Nat.le_refl _
  have HS0 : Hid (SR w (w.alloc (.cells #[.string ⟨#[]⟩, .int .i64 0, .string ⟨#[]⟩] 34)) D s k w.heap.size) := by
    have hb : Below w.heap.size w (w.alloc (.cells #[.string ⟨#[]⟩, .int .i64 0, .string ⟨#[]⟩] 34)) := Below.alloc (Below.refl _ _) (Nat.le_refl _) _
    exact ⟨⟨hR.blw hb, gr_b22 hb⟩, Rq.newS _ _ _ _ _ rfl, hT.blw hb⟩
  clear hR hT
  obtain ⟨a, ha⟩ : ∃ a, a = runF gapZ s.data.toList k := ⟨_, rfl⟩
  rw [← ha] at hRr
  have has : a ≤ s.size := by rw [ha]; exact (HRl.out _ _ hk).2
  obtain ⟨hat, hts⟩ := HRl.out wrdZ a has
  have HR1 : Hid (R = if runF wrdZ s.data.toList a = a then noR 220 a else if rnmF (s.extract a (runF wrdZ s.data.toList a)).data.toList = false then noR 230 a else onA s (s.extract a (runF wrdZ s.data.toList a)) (runF gapZ s.data.toList (runF wrdZ s.data.toList a))) := hRr
  have HW1 : Hid (wdN s a 230 = if runF wrdZ s.data.toList a = a then (⟨#[]⟩, 220, a) else if rnmF (s.extract a (runF wrdZ s.data.toList a)).data.toList = false then (⟨#[]⟩, 230, a) else (s.extract a (runF wrdZ s.data.toList a), 0, runF wrdZ s.data.toList a)) := rfl
  have HC1 : Hid (Calls Tryd.prog 47 #[.pointer (some ⟨D, 0, none⟩), .func (.func 28) #[] #[], .int .i64 230] (w.alloc (.cells #[.string ⟨#[]⟩, .int .i64 0, .string ⟨#[]⟩] 34)) fun e w' => e = .returned (.tuple #[.string (wdN s a 230).1, .int .i64 (wdN s a 230).2.1]) ∧ LkA (w.alloc (.cells #[.string ⟨#[]⟩, .int .i64 0, .string ⟨#[]⟩] 34)) w' D s (wdN s a 230).2.2) := by
    rw [ha]; exact HWN.out _ _ HS0.out.x.1 hk
  clear hRr ha HWN hk
  generalize wdN s a 230 = r1 at *
  generalize runF wrdZ s.data.toList a = t at *
  generalize s.extract a t = n at *
  go_enter Tryd.func32, Tryd.ntmps32
  go_wp2_with fail
  generalize w.alloc (.cells #[.string ⟨#[]⟩, .int .i64 0, .string ⟨#[]⟩] 34) = W0 at *
  refine HC1.out.mono ?_
  rintro e w1 ⟨rfl, h1⟩
  have HS1 : Hid (SR w w1 D s r1.2.2 w.heap.size) := HS0.out.step22 HDN.out h1
  clear h1 HC1 HS0
  by_cases c1 : t = a ∨ rnmF n.data.toList = false
  · obtain ⟨er, her0, hr1, hRe⟩ : ∃ er : Int, er ≠ 0 ∧ r1 = (⟨#[]⟩, er, a) ∧ R = noR er a := by
      by_cases e1 : t = a
      · exact ⟨220, by decide, by rw [HW1.out, if_pos e1], by rw [HR1.out, if_pos e1]⟩
      · have e2 : rnmF n.data.toList = false := by rcases c1 with c1 | c1; exact absurd c1 e1; exact c1
        exact ⟨230, by decide, by rw [HW1.out, if_neg e1, if_pos e2], by rw [HR1.out, if_neg e1, if_pos e2]⟩
    have HE : Hid (R = noR er a) := hRe
    subst hr1
    have hb : (er != 0) = true := by simpa using her0
    have HE0 : Hid (er ≠ 0) := her0
    clear c1 HW1 HR1 hRe her0
    have hD := HS1.out.b.lt
    have f0 := HS1.out.b.f 0
    have f1 := HS1.out.b.f 1
    have f2 := HS1.out.b.f 2
    have q0 := HS1.out.b.c0
    have q1 := HS1.out.b.c1
    have q2 := HS1.out.b.c2
    go_wp2
    have Z : Hid (Rq (st3 w1 w.heap.size ⟨#[]⟩ (0) ⟨#[]⟩) w.heap.size ⟨#[]⟩ (0) ⟨#[]⟩) := st3_q HS1.out.b
    have ZL : Hid (LkA w (st3 w1 w.heap.size ⟨#[]⟩ (0) ⟨#[]⟩) D s (a)) := st3_l HS1.out.x HN.out HDN.out _ _ _
    refine bodyPost_ret (ret_r2 rfl rfl Z.out) rfl ?_
    exact ⟨⟨#[]⟩, 0, ⟨#[]⟩, a, by rw [HE.out]; rfl, ZL.out, has, (fun z => by rw [HE.out] at z; exact absurd z HE0.out), (fun _ => by rw [HE.out]; rfl)⟩
  have e1 : ¬ t = a := fun h => c1 (.inl h)
  have e2 : rnmF n.data.toList = true := by cases h : rnmF n.data.toList; exact absurd (.inr h) c1; rfl
  have hr1 : r1 = (n, 0, t) := by rw [HW1.out, if_neg e1, if_neg (by rw [e2]; simp)]
  have HR2 : Hid (R = onA s n (runF gapZ s.data.toList t)) := by show _ = _; rw [HR1.out, if_neg e1, if_neg (by rw [e2]; simp)]
  subst hr1
  have HS2 : Hid (SR w w1 D s t w.heap.size) := HS1.out
  clear c1 e1 e2 HW1 HR1 HS1
  have HC2 : Hid (Calls Tryd.prog 48 #[.pointer (some ⟨D, 0, none⟩), .int .i64 4] w1 fun e w' => e = .returned (.bool (lkF s (runF gapZ s.data.toList t) == 4)) ∧ LkA w1 w' D s (psA s (runF gapZ s.data.toList t) 4)) := HPs.out w1 t 4 HS2.out.x.1 hts
  obtain ⟨htb, hbs⟩ := HRl.out gapZ t hts
  have HSt : Hid (runF gapZ s.data.toList (runF gapZ s.data.toList t) = runF gapZ s.data.toList t) := runF_stop hts
  generalize runF gapZ s.data.toList t = b at *
  have HPb : Hid (psA s b 4 = if lkF s b = 4 then b + 1 else b) := rfl
  have hL4 : lkF s b = 4 ↔ atB s b = 40 := lk_at kd_4 (by decide) (by decide)
  have hb0 : ((0 : Int) != 0) = false := rfl
  by_cases c2 : atB s b = 40
  rotate_left
  · have hl : ¬ lkF s b = 4 := fun h => c2 (hL4.1 h)
    have hb4 : (lkF s b == 4) = false := by simpa using hl
    have hpq : psA s b 4 = b := by rw [HPb.out, if_neg hl]
    rw [hb4, hpq] at HC2
    have HE : Hid (R = ⟨n, 0, ⟨#[]⟩, 0, b⟩) := by show _ = _; rw [HR2.out, onA, if_neg c2]
    clear HR2 HPb hL4 c2 hl hb4 hpq
    go_wp2_with fail
    refine HC2.out.mono ?_
    rintro e w2 ⟨rfl, h2⟩
    have HS3 : Hid (SR w w2 D s b w.heap.size) := HS2.out.step22 HDN.out h2
    clear h2 HC2 HS2
    have hD := HS3.out.b.lt
    have f0 := HS3.out.b.f 0
    have f1 := HS3.out.b.f 1
    have f2 := HS3.out.b.f 2
    have q0 := HS3.out.b.c0
    have q1 := HS3.out.b.c1
    have q2 := HS3.out.b.c2
    go_wp2
    have Z : Hid (Rq (st3 w2 w.heap.size n (0) ⟨#[]⟩) w.heap.size n (0) ⟨#[]⟩) := st3_q HS3.out.b
    have ZL : Hid (LkA w (st3 w2 w.heap.size n (0) ⟨#[]⟩) D s (b)) := st3_l HS3.out.x HN.out HDN.out _ _ _
    refine bodyPost_ret (ret_r2 rfl rfl Z.out) rfl ?_
    exact ⟨n, 0, ⟨#[]⟩, b, by rw [HE.out]; rfl, ZL.out, hbs, (fun _ => by rw [HE.out]; exact ⟨rfl, rfl, rfl, HSt.out⟩), (fun z => by rw [HE.out] at z; exact absurd rfl z)⟩
  have hl : lkF s b = 4 := hL4.2 c2
  have hb4 : (lkF s b == 4) = true := by simpa using hl
  have hpq : psA s b 4 = b + 1 := by rw [HPb.out, if_pos hl]
  rw [hb4, hpq] at HC2
  have hblt : b < s.size := by
    apply Classical.byContradiction
    intro hn; rw [atB_out hn] at c2; cases c2
  have HR3 : Hid (R = onB s n (runF gapZ s.data.toList (b + 1))) := by show _ = _; rw [HR2.out, onA, if_pos c2]
  clear HR2 HPb hL4 c2 hl hb4 hpq HSt
  go_wp2_with fail
  refine HC2.out.mono ?_
  rintro e w2 ⟨rfl, h2⟩
  have HS3 : Hid (SR w w2 D s (b + 1) w.heap.size) := HS2.out.step22 HDN.out h2
  clear h2 HC2 HS2
  have HC3 : Hid (Calls Tryd.prog 49 #[.pointer (some ⟨D, 0, none⟩)] w2 fun e w' => e = .returned (.tuple #[.int .i64 (oprF s (runF gapZ s.data.toList (b + 1))).1, .int .i64 (oprF s (runF gapZ s.data.toList (b + 1))).2.1]) ∧ LkA w2 w' D s (oprF s (runF gapZ s.data.toList (b + 1))).2.2) := HOp.out w2 (b + 1) HS3.out.x.1 HS3.out.t hblt
  obtain ⟨hbd, hds⟩ := HRl.out gapZ (b + 1) hblt
  generalize runF gapZ s.data.toList (b + 1) = d at *
  obtain ⟨hdc, hcs⟩ := HRl.out sgnZ d hds
  have HW2 : Hid (oprF s d = if opF (s.extract d (runF sgnZ s.data.toList d)) = 0 then (0, 220, d) else (opF (s.extract d (runF sgnZ s.data.toList d)), 0, runF sgnZ s.data.toList d)) := rfl
  have HR4 : Hid (R = if opF (s.extract d (runF sgnZ s.data.toList d)) = 0 then noR 220 d else onC s n (opF (s.extract d (runF sgnZ s.data.toList d))) (runF gapZ s.data.toList (runF sgnZ s.data.toList d))) := HR3.out
  clear HR3 HOp
  generalize oprF s d = r2 at *
  generalize runF sgnZ s.data.toList d = c at *
  generalize opF (s.extract d c) = O at *
  go_wp2_with fail
  refine HC3.out.mono ?_
  rintro e w3 ⟨rfl, h3⟩
  have HS4 : Hid (SR w w3 D s r2.2.2 w.heap.size) := HS3.out.step22 HDN.out h3
  clear h3 HC3 HS3
  by_cases c3 : O = 0
  · have hr2 : r2 = (0, 220, d) := by rw [HW2.out, if_pos c3]
    have HE : Hid (R = noR 220 d) := by show _ = _; rw [HR4.out, if_pos c3]
    subst hr2
    have hb : ((220 : Int) != 0) = true := rfl
    have HE0 : Hid ((220 : Int) ≠ 0) := show (220 : Int) ≠ 0 by decide
    clear HW2 HR4 c3
    have hD := HS4.out.b.lt
    have f0 := HS4.out.b.f 0
    have f1 := HS4.out.b.f 1
    have f2 := HS4.out.b.f 2
    have q0 := HS4.out.b.c0
    have q1 := HS4.out.b.c1
    have q2 := HS4.out.b.c2
    go_wp2
    have Z : Hid (Rq (st3 w3 w.heap.size ⟨#[]⟩ (0) ⟨#[]⟩) w.heap.size ⟨#[]⟩ (0) ⟨#[]⟩) := st3_q HS4.out.b
    have ZL : Hid (LkA w (st3 w3 w.heap.size ⟨#[]⟩ (0) ⟨#[]⟩) D s (d)) := st3_l HS4.out.x HN.out HDN.out _ _ _
    refine bodyPost_ret (ret_r2 rfl rfl Z.out) rfl ?_
    exact ⟨⟨#[]⟩, 0, ⟨#[]⟩, d, by rw [HE.out]; rfl, ZL.out, hds, (fun z => by rw [HE.out] at z; exact absurd z HE0.out), (fun _ => by rw [HE.out]; rfl)⟩
  have hr2 : r2 = (O, 0, c) := by rw [HW2.out, if_neg c3]
  have HR5 : Hid (R = onC s n O (runF gapZ s.data.toList c)) := by show _ = _; rw [HR4.out, if_neg c3]
  subst hr2
  have HS5 : Hid (SR w w3 D s c w.heap.size) := HS4.out
  clear HW2 HR4 c3 HS4
  have HC4 : Hid (Calls Tryd.prog 47 #[.pointer (some ⟨D, 0, none⟩), .func (.func 38) #[] #[], .int .i64 200] w3 fun e w' => e = .returned (.tuple #[.string (wdV s (runF gapZ s.data.toList c) 200).1, .int .i64 (wdV s (runF gapZ s.data.toList c) 200).2.1]) ∧ LkA w3 w' D s (wdV s (runF gapZ s.data.toList c) 200).2.2) := HWV.out w3 c HS5.out.x.1 hcs
  obtain ⟨hcg, hgs⟩ := HRl.out gapZ c hcs
  generalize runF gapZ s.data.toList c = g at *
  obtain ⟨hgf, hfs⟩ := HRl.out wrdZ g hgs
  have HW3 : Hid (wdV s g 200 = if runF wrdZ s.data.toList g = g then (⟨#[]⟩, 220, g) else if okS (s.extract g (runF wrdZ s.data.toList g)) = false then (⟨#[]⟩, 200, g) else (s.extract g (runF wrdZ s.data.toList g), 0, runF wrdZ s.data.toList g)) := rfl
  have HR6 : Hid (R = if runF wrdZ s.data.toList g = g then noR 220 g else if okS (s.extract g (runF wrdZ s.data.toList g)) = false then noR 200 g else onD s n O (s.extract g (runF wrdZ s.data.toList g)) (runF gapZ s.data.toList (runF wrdZ s.data.toList g))) := HR5.out
  clear HR5 HWV
  generalize wdV s g 200 = r3 at *
  generalize runF wrdZ s.data.toList g = f at *
  generalize s.extract g f = v at *
  go_wp2_with fail
  refine HC4.out.mono ?_
  rintro e w4 ⟨rfl, h4⟩
  have HS6 : Hid (SR w w4 D s r3.2.2 w.heap.size) := HS5.out.step22 HDN.out h4
  clear h4 HC4 HS5
  by_cases c4 : f = g ∨ okS v = false
  · obtain ⟨er, her0, hr3, hRe⟩ : ∃ er : Int, er ≠ 0 ∧ r3 = (⟨#[]⟩, er, g) ∧ R = noR er g := by
      by_cases e1 : f = g
      · exact ⟨220, by decide, by rw [HW3.out, if_pos e1], by rw [HR6.out, if_pos e1]⟩
      · have e2 : okS v = false := by rcases c4 with c4 | c4; exact absurd c4 e1; exact c4
        exact ⟨200, by decide, by rw [HW3.out, if_neg e1, if_pos e2], by rw [HR6.out, if_neg e1, if_pos e2]⟩
    have HE : Hid (R = noR er g) := hRe
    subst hr3
    have hb : (er != 0) = true := by simpa using her0
    have HE0 : Hid (er ≠ 0) := her0
    clear c4 HW3 HR6 hRe her0
    have hD := HS6.out.b.lt
    have f0 := HS6.out.b.f 0
    have f1 := HS6.out.b.f 1
    have f2 := HS6.out.b.f 2
    have q0 := HS6.out.b.c0
    have q1 := HS6.out.b.c1
    have q2 := HS6.out.b.c2
    go_wp2
    have Z : Hid (Rq (st3 w4 w.heap.size ⟨#[]⟩ (0) ⟨#[]⟩) w.heap.size ⟨#[]⟩ (0) ⟨#[]⟩) := st3_q HS6.out.b
    have ZL : Hid (LkA w (st3 w4 w.heap.size ⟨#[]⟩ (0) ⟨#[]⟩) D s (g)) := st3_l HS6.out.x HN.out HDN.out _ _ _
    refine bodyPost_ret (ret_r2 rfl rfl Z.out) rfl ?_
    exact ⟨⟨#[]⟩, 0, ⟨#[]⟩, g, by rw [HE.out]; rfl, ZL.out, hgs, (fun z => by rw [HE.out] at z; exact absurd z HE0.out), (fun _ => by rw [HE.out]; rfl)⟩
  have e1 : ¬ f = g := fun h => c4 (.inl h)
  have e2 : okS v = true := by cases h : okS v; exact absurd (.inr h) c4; rfl
  have hr3 : r3 = (v, 0, f) := by rw [HW3.out, if_neg e1, if_neg (by rw [e2]; simp)]
  have HR7 : Hid (R = onD s n O v (runF gapZ s.data.toList f)) := by show _ = _; rw [HR6.out, if_neg e1, if_neg (by rw [e2]; simp)]
  subst hr3
  have HS7 : Hid (SR w w4 D s f w.heap.size) := HS6.out
  clear c4 e1 e2 HW3 HR6 HS6
  have HC5 : Hid (Calls Tryd.prog 48 #[.pointer (some ⟨D, 0, none⟩), .int .i64 5] w4 fun e w' => e = .returned (.bool (lkF s (runF gapZ s.data.toList f) == 5)) ∧ LkA w4 w' D s (psA s (runF gapZ s.data.toList f) 5)) := HPs.out w4 f 5 HS7.out.x.1 hfs
  obtain ⟨hfh, hhs⟩ := HRl.out gapZ f hfs
  generalize runF gapZ s.data.toList f = h at *
  have HPh : Hid (psA s h 5 = if lkF s h = 5 then h + 1 else h) := rfl
  have hL5 : lkF s h = 5 ↔ atB s h = 41 := lk_at kd_5 (by decide) (by decide)
  by_cases c5 : atB s h = 41
  rotate_left
  · have hl : ¬ lkF s h = 5 := fun q => c5 (hL5.1 q)
    have hb5 : (lkF s h == 5) = false := by simpa using hl
    have hpq : psA s h 5 = h := by rw [HPh.out, if_neg hl]
    rw [hb5, hpq] at HC5
    have HE : Hid (R = noR 220 h) := by show _ = _; rw [HR7.out, onD, if_neg c5]
    have HE0 : Hid ((220 : Int) ≠ 0) := show (220 : Int) ≠ 0 by decide
    clear HR7 HPh hL5 c5 hl hb5 hpq
    go_wp2_with fail
    refine HC5.out.mono ?_
    rintro e w5 ⟨rfl, h5⟩
    have HS8 : Hid (SR w w5 D s h w.heap.size) := HS7.out.step22 HDN.out h5
    clear h5 HC5 HS7
    have hD := HS8.out.b.lt
    have f0 := HS8.out.b.f 0
    have f1 := HS8.out.b.f 1
    have f2 := HS8.out.b.f 2
    have q0 := HS8.out.b.c0
    have q1 := HS8.out.b.c1
    have q2 := HS8.out.b.c2
    go_wp2
    have Z : Hid (Rq (st3 w5 w.heap.size ⟨#[]⟩ (0) ⟨#[]⟩) w.heap.size ⟨#[]⟩ (0) ⟨#[]⟩) := st3_q HS8.out.b
    have ZL : Hid (LkA w (st3 w5 w.heap.size ⟨#[]⟩ (0) ⟨#[]⟩) D s (h)) := st3_l HS8.out.x HN.out HDN.out _ _ _
    refine bodyPost_ret (ret_r2 rfl rfl Z.out) rfl ?_
    exact ⟨⟨#[]⟩, 0, ⟨#[]⟩, h, by rw [HE.out]; rfl, ZL.out, hhs, (fun z => by rw [HE.out] at z; exact absurd z HE0.out), (fun _ => by rw [HE.out]; rfl)⟩
  have hl : lkF s h = 5 := hL5.2 c5
  have hb5 : (lkF s h == 5) = true := by simpa using hl
  have hpq : psA s h 5 = h + 1 := by rw [HPh.out, if_pos hl]
  rw [hb5, hpq] at HC5
  have hhlt : h < s.size := by
    apply Classical.byContradiction
    intro hn; rw [atB_out hn] at c5; cases c5
  have HE : Hid (R = ⟨n, O, v, 0, runF gapZ s.data.toList (h + 1)⟩) := by show _ = _; rw [HR7.out, onD, if_pos c5]
  clear HR7 HPh hL5 c5 hl hb5 hpq
  go_wp2_with fail
  refine HC5.out.mono ?_
  rintro e w5 ⟨rfl, h5⟩
  have HS8 : Hid (SR w w5 D s (h + 1) w.heap.size) := HS7.out.step22 HDN.out h5
  clear h5 HC5 HS7
  have hD := HS8.out.b.lt
  have f0 := HS8.out.b.f 0
  have f1 := HS8.out.b.f 1
  have f2 := HS8.out.b.f 2
  have q0 := HS8.out.b.c0
  have q1 := HS8.out.b.c1
  have q2 := HS8.out.b.c2
  go_wp2
  have Z : Hid (Rq (st3 w5 w.heap.size n (O) v) w.heap.size n (O) v) := st3_q HS8.out.b
  have ZL : Hid (LkA w (st3 w5 w.heap.size n (O) v) D s (h + 1)) := st3_l HS8.out.x HN.out HDN.out _ _ _
  refine bodyPost_ret (ret_r2 rfl rfl Z.out) rfl ?_
  exact ⟨n, O, v, h + 1, by rw [HE.out]; rfl, ZL.out, hhlt, (fun _ => by rw [HE.out]; exact ⟨rfl, rfl, rfl, rfl⟩), (fun z => by rw [HE.out] at z; exact absurd rfl z)⟩

end Go.Proofs.YtmfcaoacklbkoaaDoor
set_option linter.unusedSimpArgs false
set_option linter.unusedVariables false
namespace Go.Proofs.YtmfcaoacklbkoaaDoor
open Go Go.RowKit

/-- what is appended to a row of the call's own lies apart from the reader -/
theorem LkA.app22 {A B w8 : World} {D : Nat} {s : ByteArray} {a : Nat} {v v8 : Value} {o : Obj} (h : LkA A B D s a) (hD : D < A.heap.size) (hv : ∀ g, v.ownBlock = some g → A.heap.size ≤ g) (ap8 : Ap (B.alloc o) v w8 v8) : LkA A w8 D s a := by
  have hsn : (B.alloc o).heap.size = B.heap.size + 1 := by simp
  have hk : ∀ k, k < B.heap.size → some k ≠ v.ownBlock → w8.heap[k]? = B.heap[k]? := fun k hk hne => (ap8.grown.block k (by rw [hsn]; omega) hne).trans (Below.heap_alloc B o k hk)
  have hs := h.2.size
  refine ⟨h.1.kept (hk D h.1.lt fun e => by have := hv D e.symm; omega), ap8.grown.os.trans h.2.os, ap8.grown.tape.trans h.2.tape, ap8.grown.output.trans h.2.output, ?_, fun k hk2 hne => ?_⟩
  · have := ap8.grown.size
    rw [hsn] at this
    omega
  · exact (hk k (by omega) fun e => by have := hv k e.symm; omega).trans (h.2.block k hk2 hne)
/-- what several answers -/
def SvAns (w w' : World) (e : Ending) (D : Nat) (s : ByteArray) : Except (Int × Nat) (List Rl × Nat) → Prop
  | .error p => e = .returned (.tuple #[.slice none 0 0, .int .i64 p.1]) ∧ p.1 ≠ 0 ∧ p.2 ≤ s.size ∧ LkA w w' D s p.2
  | .ok p => ∃ a c, e = .returned (.tuple #[.slice a p.1.length c, .int .i64 0]) ∧ OwnR w.heap.size w' (.slice a p.1.length c) p.1 ∧ LkA w w' D s p.2
theorem OwnR.lk22 {B : Nat} {W W' : World} {D : Nat} {s : ByteArray} {a : Nat} {v : Value} {N : List Rl} (h : OwnR B W v N) (hD : D < B) (hk : LkA W W' D s a) : OwnR B W' v N :=
  row_kept22 h fun k e => hk.2.block k (World.ownsRow.lt h k e).2 (fun q => by injection q with q; have := (World.ownsRow.lt h k e).1; omega)
set_option maxHeartbeats 6400000 in
set_option maxRecDepth 20000 in
theorem several22 (s : ByteArray) (k D : Nat) (K Z : Int) (w : World) (hKZ : ∀ z, kdZ z = K ↔ z = Z) (hK0 : K ≠ 0) (hZ0 : 0 ≤ Z) (hR : Rx w D s k) (hT : OpT w) (hk : k ≤ s.size) (hs : s.size ≤ 1099511627776) :
    Calls Tryd.prog 46 #[.pointer (some ⟨D, 0, none⟩), .int .i64 K, .func (.func 32) #[.pointer (some ⟨D, 0, none⟩)] #[]] w fun e w' => SvAns w w' e D s (sevF s Z (s.size + 1) (runF gapZ s.data.toList k) []) := by
  obtain ⟨R, hRr⟩ : ∃ R, R = sevF s Z (s.size + 1) (runF gapZ s.data.toList k) [] := ⟨_, rfl⟩
  rw [← hRr]
  have HRe : Hid (∀ W j, Rx W D s j → OpT W → j ≤ s.size → Calls Tryd.prog 32 #[.pointer (some ⟨D, 0, none⟩)] W fun e w' => RlAns W w' e D s (oneF s (runF gapZ s.data.toList j))) := fun W j h ht hj => relation22 s j D W h ht hj (by omega)
  have HPs : Hid (∀ W j, Rx W D s j → j ≤ s.size → Calls Tryd.prog 48 #[.pointer (some ⟨D, 0, none⟩), .int .i64 K] W fun e w' => e = .returned (.bool (lkF s (runF gapZ s.data.toList j) == K)) ∧ LkA W w' D s (psA s (runF gapZ s.data.toList j) K)) := fun W j h hj => pass22 s j D K W h hj (by omega)
  have HLk : Hid (∀ a, lkF s a = K ↔ atB s a = Z) := fun a => lk_at hKZ hK0 hZ0
  have hDw := hR.lt
  have HDw : Hid (D < w.heap.size) := hDw
  obtain ⟨i0, hi, hz0, hz1, hz2⟩ := info_parts infoR22
  have HIn : Hid (Tryd.prog.info? 34 = some i0 ∧ i0.zero = some (.agg #[.string ⟨#[]⟩, .int .i64 0, .string ⟨#[]⟩]) ∧ i0.size = 3 ∧ i0.bytes = 40) := ⟨hi, hz0, hz1, hz2⟩
  clear hi hz0 hz1 hz2 hKZ hK0
  have HRr : Hid (R = sevF s Z (s.size + 1) (runF gapZ s.data.toList k) []) := hRr
  have HX0 : Hid (LkA w w D s k) := ⟨hR, gr_b22 (Below.refl _ _)⟩
  have HOT : Hid (∀ W a, LkA w W D s a → OpT W) := fun W a h => hT.lk hR h
  have HZ0 : Hid (0 ≤ Z) := hZ0
  clear hRr hR hT hDw hZ0
  go_enter Tryd.func46, Tryd.ntmps46
  go_wp2
  go_loopg [8] (s.size + 1) (fun g o wr => ∃ (j : Nat) (N : List Rl) (a8 : Option Addr) (c8 : Nat), s.size < runF gapZ s.data.toList j + g ∧ j ≤ s.size ∧ N.length ≤ j ∧ o = .slice a8 N.length c8 ∧ Hid (OwnR w.heap.size wr (.slice a8 N.length c8) N) ∧ Hid (R = sevF s Z g (runF gapZ s.data.toList j) N) ∧ Hid (LkA w wr D s j))
  case atStart => exact ⟨k, [], none, 0, by omega, hk, by simp, rfl, OwnR.nil _ _, HRr.out, HX0.out⟩
  case round =>
    obtain ⟨j, N, a8, c8, hfu, hj, hN, rfl, HO, HK, HX⟩ := hrel
    clear HRr HX0 hk
    have ha1 := runF_ge gapZ s.data.toList j
    have ha2 := runF_le22 gapZ s hj
    obtain ⟨f, rfl⟩ : ∃ f, gk = f + 1 := ⟨gk - 1, by omega⟩
    have HC := HRe.out wr j HX.out.1 (HOT.out _ _ HX.out) hj
    have HSz := fun h => one_ok22 (s := s) ha2 h
    have HNx := fun h => next22_lt (s := s) (Z := Z) ha2 h HZ0.out
    generalize runF gapZ s.data.toList j = a at *
    have HK2 : R = if (oneF s a).e ≠ 0 then .error ((oneF s a).e, (oneF s a).k) else if atB s (oneF s a).k = Z then sevF s Z f (runF gapZ s.data.toList ((oneF s a).k + 1)) (N ++ [rlO (oneF s a)]) else .ok (N ++ [rlO (oneF s a)], (oneF s a).k) := HK.out
    clear HK
    generalize oneF s a = r at *
    obtain ⟨n, o, v, er, q⟩ := r
    have HC1 : Hid (Calls Tryd.prog 32 #[.pointer (some ⟨D, 0, none⟩)] wr fun e w' => RlAns wr w' e D s ⟨n, o, v, er, q⟩) := HC
    have HK3 : Hid (R = if er ≠ 0 then .error (er, q) else if atB s q = Z then sevF s Z f (runF gapZ s.data.toList (q + 1)) (N ++ [(n, o, v)]) else .ok (N ++ [(n, o, v)], q)) := HK2
    have HSq : Hid (er = 0 → n.size ≤ s.size ∧ v.size ≤ s.size ∧ a < q ∧ q ≤ s.size) := HSz
    have HNq : Hid (¬ er ≠ 0 → atB s q = Z → a < runF gapZ s.data.toList (q + 1) ∧ runF gapZ s.data.toList (q + 1) ≤ s.size) := HNx
    clear HC HK2 HSz HNx
    go_wp2_with fail
    refine HC1.out.mono ?_
    rintro e w2 ⟨rn, ro, rv, q2, he, hx2, hq2, hok, hbad⟩
    subst he
    simp only at hok hbad
    have HX2 : Hid (LkA w w2 D s q2) := HX.out.trans22 hx2
    have HO2 : Hid (OwnR w.heap.size w2 (.slice a8 N.length c8) N) := HO.out.lk22 HDw.out hx2
    clear HC1 HX HO hx2
    by_cases he : er = 0
    rotate_left
    · have hb : (er != 0) = true := by simpa using he
      have hqq := hbad he
      subst hqq
      have HE : Hid (R = .error (er, q2)) := by show _ = _; rw [HK3.out, if_pos he]
      have HEr : Hid (er ≠ 0) := he
      have HXf : Hid (LkA w (w2.alloc (.cells #[.string rn, .int .i64 ro, .string rv] 34)) D s q2) := HX2.out.blw22 (Below.alloc (Below.refl _ _) (Nat.le_refl _) _)
      clear HK3 hok hbad he
      go_wp2
      go_returns
      rw [HE.out]
      exact ⟨rfl, HEr.out, hq2, HXf.out⟩
    subst he
    obtain ⟨rfl, rfl, rfl, hgq⟩ := hok rfl
    obtain ⟨hn, hv, haq, hqs⟩ := HSq.out rfl
    have HK4 : Hid (R = if atB s q = Z then sevF s Z f (runF gapZ s.data.toList (q + 1)) (N ++ [(rn, ro, rv)]) else .ok (N ++ [(rn, ro, rv)], q)) := by show _ = _; rw [HK3.out, if_neg (by simp)]
    have HNq2 : Hid (atB s q = Z → a < runF gapZ s.data.toList (q + 1) ∧ runF gapZ s.data.toList (q + 1) ≤ s.size) := HNq.out (by simp)
    have HGq : Hid (runF gapZ s.data.toList q2 = q) := hgq
    clear HK3 HSq HNq hbad hok hgq hn hv
    have HXb : Hid (LkA w (w2.alloc (.cells #[.string rn, .int .i64 ro, .string rv] 34)) D s q2) := HX2.out.blw22 (Below.alloc (Below.refl _ _) (Nat.le_refl _) _)
    have HOb : Hid (OwnR w.heap.size (w2.alloc (.cells #[.string rn, .int .i64 ro, .string rv] 34)) (.slice a8 N.length c8) N) := World.ownsRow.alloc HO2.out _
    have HQb : Hid (Rq (w2.alloc (.cells #[.string rn, .int .i64 ro, .string rv] 34)) w2.heap.size rn ro rv) := Rq.newS _ _ _ _ _ rfl
    clear HX2 HO2
    go_upto_region 5 with fail
    generalize w2.alloc (.cells #[.string rn, .int .i64 ro, .string rv] 34) = wb at *
    have z0 := HQb.out.c0
    have z1 := HQb.out.c1
    have z2 := HQb.out.c2
    generalize w2.heap.size = Db at *
    clear w2
    have HRow : Hid ((wb.alloc (.cells #[.string rn, .int .i64 ro, .string rv] 34)).ownsRow w.heap.size 34 3 (.slice a8 N.length c8) N.length (relC N)) := World.ownsRow.alloc HOb.out _
    have HNw : Hid (∀ j u, [Value.string rn, Value.int .i64 ro, Value.string rv][j]? = some u → (wb.alloc (.cells #[.string rn, .int .i64 ro, .string rv] 34)).cell? ((⟨wb.heap.size, 0, none⟩ : Addr).add j) = some u) := three_new22 wb _ _ _ _
    have HPt : Hid (∀ v8 w8, w8.ownsRow w.heap.size 34 3 v8 (N.length + 1) (relC N ++ [.string rn, .int .i64 ro, .string rv]) → Ap (wb.alloc (.cells #[.string rn, .int .i64 ro, .string rv] 34)) (.slice a8 N.length c8) w8 v8 → (OwnR w.heap.size w8 v8 (N ++ [(rn, ro, rv)]) ∧ ∃ a9 c9, v8 = .slice a9 (N.length + 1) c9) ∧ LkA w w8 D s q2) := fun v8 w8 o8 p8 => ⟨OwnR.put22 (o := .cells #[] 0) (r := (rn, ro, rv)) HOb.out o8, HXb.out.app22 HDw.out (fun g e => (World.ownsRow.lt HOb.out g e).1) p8⟩
    have hszb : w.heap.size ≤ wb.heap.size := HXb.out.2.size
    go_upto_region 6 with (at_builtin; refine wpList_append_apk rfl (.tmp 19) (.tmp 21) 26 rfl w.heap.size 34 i0 (.agg #[.string ⟨#[]⟩, .int .i64 0, .string ⟨#[]⟩]) 3 40 Tryd.underlying26 HIn.out.1 HIn.out.2.1 HIn.out.2.2.1 HIn.out.2.2.2 rfl (by decide) (.slice a8 N.length c8) N.length (relC N) rfl HRow.out ⟨wb.heap.size, 0, none⟩ 1 1 [.string rn, .int .i64 ro, .string rv] rfl rfl HNw.out (by simp [Value.oneCell']) (by unfold maxLen; omega) (by omega) (by simp; omega) ?_; intro v8 w8 own8 ap8; obtain ⟨⟨s8, a9, c9, rfl⟩, b8⟩ := HPt.out v8 w8 own8 ap8; have HO8 : Hid (OwnR w.heap.size w8 (.slice a9 (N.length + 1) c9) (N ++ [(rn, ro, rv)])) := s8; have HX8 : Hid (LkA w w8 D s q2) := b8; clear own8 ap8 s8 b8)
    clear HRow HNw HPt HXb HOb HQb z0 z1 z2 hszb
    have HC2 : Hid (Calls Tryd.prog 48 #[.pointer (some ⟨D, 0, none⟩), .int .i64 K] w8 fun e w' => e = .returned (.bool (lkF s q == K)) ∧ LkA w8 w' D s (psA s q K)) := by
      have := HPs.out w8 q2 HX8.out.1 hq2
      rw [HGq.out] at this
      exact this
    have HPq : Hid (psA s q K = if lkF s q = K then q + 1 else q) := rfl
    have hlk := HLk.out q
    by_cases hz : atB s q = Z
    · have hl : lkF s q = K := hlk.2 hz
      have hb : (lkF s q == K) = true := by simpa using hl
      have hp : psA s q K = q + 1 := by rw [HPq.out, if_pos hl]
      rw [hb, hp] at HC2
      obtain ⟨g1, g2⟩ := HNq2.out hz
      have hlt := at_lt22 HZ0.out hz
      have HKn : Hid (R = sevF s Z f (runF gapZ s.data.toList (q + 1)) (N ++ [(rn, ro, rv)])) := by show _ = _; rw [HK4.out, if_pos hz]
      clear HK4 HPq hlk hl hb hp hz HNq2
      go_wp2_with (go_at_call 48; refine HC2.out.mono ?_; rintro e w9 ⟨rfl, h9⟩; have HX9 : Hid (LkA w w9 D s (q + 1)) := HX8.out.trans22 h9; have HO9 : Hid (OwnR w.heap.size w9 (.slice a9 (N.length + 1) c9) (N ++ [(rn, ro, rv)])) := HO8.out.lk22 HDw.out h9; clear h9)
      go_roundg f
      case measure => omega
      case rel => exact ⟨q + 1, N ++ [(rn, ro, rv)], a9, c9, by omega, hlt, by simp; omega, by simp, by rw [List.length_append]; exact HO9.out, HKn.out, HX9.out⟩
    · have hl : ¬ lkF s q = K := fun h => hz (hlk.1 h)
      have hb : (lkF s q == K) = false := by simpa using hl
      have hp : psA s q K = q := by rw [HPq.out, if_neg hl]
      rw [hb, hp] at HC2
      have HE : Hid (R = .ok (N ++ [(rn, ro, rv)], q)) := by show _ = _; rw [HK4.out, if_neg hz]
      clear HK4 HPq hlk hl hb hp hz HNq2
      go_wp2_with (go_at_call 48; refine HC2.out.mono ?_; rintro e w9 ⟨rfl, h9⟩; have HX9 : Hid (LkA w w9 D s q) := HX8.out.trans22 h9; have HO9 : Hid (OwnR w.heap.size w9 (.slice a9 (N.length + 1) c9) (N ++ [(rn, ro, rv)])) := HO8.out.lk22 HDw.out h9; clear h9)
      go_returns
      rw [HE.out]
      exact ⟨a9, c9, by simp, by simp only [List.length_append, List.length_cons, List.length_nil]; exact HO9.out, HX9.out⟩

end Go.Proofs.YtmfcaoacklbkoaaDoor
set_option linter.unusedSimpArgs false
set_option linter.unusedVariables false
namespace Go.Proofs.YtmfcaoacklbkoaaDoor
open Go Go.RowKit

set_option maxHeartbeats 1600000 in
theorem alternatives22 (s : ByteArray) (k D : Nat) (w : World) (hR : Rx w D s k) (hT : OpT w) (hk : k ≤ s.size) (hs : s.size ≤ 1099511627776) :
    Calls Tryd.prog 30 #[.pointer (some ⟨D, 0, none⟩)] w fun e w' => SvAns w w' e D s (sevF s 124 (s.size + 1) (runF gapZ s.data.toList k) []) := by
  have HS : Hid (Calls Tryd.prog 46 #[.pointer (some ⟨D, 0, none⟩), .int .i64 6, .func (.func 32) #[.pointer (some ⟨D, 0, none⟩)] #[]] w fun e w' => SvAns w w' e D s (sevF s 124 (s.size + 1) (runF gapZ s.data.toList k) [])) := several22 s k D 6 124 w kd_6 (by decide) (by decide) hR hT hk hs
  generalize sevF s 124 (s.size + 1) (runF gapZ s.data.toList k) [] = R at *
  go_enter Tryd.func30, Tryd.ntmps30
  go_wp2_with fail
  refine HS.out.mono ?_
  intro e w1 h1
  cases R with
  | error p =>
    obtain ⟨rfl, h2, h3, h4⟩ := h1
    go_wp2
    go_returns
    exact ⟨rfl, h2, h3, h4⟩
  | ok p =>
    obtain ⟨a, c, rfl, h2, h3⟩ := h1
    go_wp2
    go_returns
    exact ⟨a, c, rfl, h2, h3⟩
/-- what several lists answer -/
def SlAns (w w' : World) (e : Ending) (D : Nat) (s : ByteArray) : Except (Int × Nat) (List (List Rl) × Nat) → Prop
  | .error p => e = .returned (.tuple #[.slice none 0 0, .int .i64 p.1]) ∧ p.1 ≠ 0 ∧ p.2 ≤ s.size ∧ LkA w w' D s p.2
  | .ok p => ∃ a c L, e = .returned (.tuple #[.slice a L.length c, .int .i64 0]) ∧ OwnRs w.heap.size w' (.slice a L.length c) L ∧ rgS L = p.1 ∧ p.2 ≤ s.size ∧ runF gapZ s.data.toList p.2 = p.2 ∧ LkA w w' D s p.2
theorem OwnRs.lk22 {B : Nat} {W W' : World} {D : Nat} {s : ByteArray} {a : Nat} {v : Value} {L : List RG} (h : OwnRs B W v L) (hD : D < B) (hk : LkA W W' D s a) : OwnRs B W' v L :=
  ⟨row_kept22 h.row fun k e => hk.2.block k (World.ownsRow.lt h.row k e).2 (fun q => by injection q with q; have := (World.ownsRow.lt h.row k e).1; omega), fun x hx => OwnR.lk22 (h.own x hx) hD hk, h.ap⟩
theorem OwnRs.st22 {B B' : Nat} {W : World} {s v : Value} {L : List RG} {N : List Rl} (h : OwnRs B W s L) (g : OwnR B' W v N) (hB : B ≤ B') (hlt : ∀ x ∈ L, ∀ k, x.1.ownBlock = some k → k < B') : St22 B W s L v N :=
  ⟨h, row_mono g hB, fun x hx k e e2 => by have h1 := hlt x hx k e; have h2 := (World.ownsRow.lt g k e2).1; omega⟩
set_option maxHeartbeats 6400000 in
set_option maxRecDepth 20000 in
theorem severalL22 (s : ByteArray) (k D : Nat) (w : World) (hR : Rx w D s k) (hT : OpT w) (hk : k ≤ s.size) (hs : s.size ≤ 1099511627776) :
    Calls Tryd.prog 45 #[.pointer (some ⟨D, 0, none⟩), .int .i64 7, .func (.func 30) #[.pointer (some ⟨D, 0, none⟩)] #[]] w fun e w' => SlAns w w' e D s (lsF s (s.size + 1) (runF gapZ s.data.toList k) []) := by
  obtain ⟨R, hRr⟩ : ∃ R, R = lsF s (s.size + 1) (runF gapZ s.data.toList k) [] := ⟨_, rfl⟩
  rw [← hRr]
  have HRe : Hid (∀ W j, Rx W D s j → OpT W → j ≤ s.size → Calls Tryd.prog 30 #[.pointer (some ⟨D, 0, none⟩)] W fun e w' => SvAns W w' e D s (sevF s 124 (s.size + 1) (runF gapZ s.data.toList j) [])) := fun W j h ht hj => alternatives22 s j D W h ht hj hs
  have HPs : Hid (∀ W j, Rx W D s j → j ≤ s.size → Calls Tryd.prog 48 #[.pointer (some ⟨D, 0, none⟩), .int .i64 7] W fun e w' => e = .returned (.bool (lkF s (runF gapZ s.data.toList j) == 7)) ∧ LkA W w' D s (psA s (runF gapZ s.data.toList j) 7)) := fun W j h hj => pass22 s j D 7 W h hj (by omega)
  have HLk : Hid (∀ a, lkF s a = 7 ↔ atB s a = 44) := fun a => lk_at kd_7 (by decide) (by decide)
  have HDw : Hid (D < w.heap.size) := hR.lt
  have HOT : Hid (∀ W a, LkA w W D s a → OpT W) := fun W a h => hT.lk hR h
  obtain ⟨i1, hi, hz0, hz1, hz2⟩ := info_parts infoRs22
  have HIn1 : Hid (Tryd.prog.info? 26 = some i1 ∧ i1.zero = some (.slice none 0 0) ∧ i1.size = 1 ∧ i1.bytes = 24) := ⟨hi, hz0, hz1, hz2⟩
  clear hi hz0 hz1 hz2
  have HRr : Hid (R = lsF s (s.size + 1) (runF gapZ s.data.toList k) []) := hRr
  have HX0 : Hid (LkA w w D s k) := ⟨hR, gr_b22 (Below.refl _ _)⟩
  clear hRr hR hT
  go_enter Tryd.func45, Tryd.ntmps45
  go_wp2
  go_loopg [8] (s.size + 1) (fun g o wr => ∃ (j : Nat) (L : List RG) (a8 : Option Addr) (c8 : Nat), s.size < runF gapZ s.data.toList j + g ∧ j ≤ s.size ∧ L.length ≤ j ∧ o = .slice a8 L.length c8 ∧ Hid (OwnRs w.heap.size wr (.slice a8 L.length c8) L) ∧ Hid (R = lsF s g (runF gapZ s.data.toList j) (rgS L)) ∧ Hid (LkA w wr D s j))
  case atStart => exact ⟨k, [], none, 0, by omega, hk, by simp, rfl, OwnRs.nil _ _, HRr.out, HX0.out⟩
  case round =>
    obtain ⟨j, L, a8, c8, hfu, hj, hL, rfl, HO, HK, HX⟩ := hrel
    clear HRr HX0 hk
    have ha1 := runF_ge gapZ s.data.toList j
    have ha2 := runF_le22 gapZ s hj
    obtain ⟨f, rfl⟩ : ∃ f, gk = f + 1 := ⟨gk - 1, by omega⟩
    have HC := HRe.out wr j HX.out.1 (HOT.out _ _ HX.out) hj
    have HSv := fun p => sev_ok (s := s) (Z := 124) (by decide) (s.size + 1) (runF gapZ s.data.toList j) [] p ha2
    generalize runF gapZ s.data.toList j = a at *
    have HK2 : R = (match sevF s 124 (s.size + 1) a [] with | .error e => .error e | .ok p => if atB s p.2 = 44 then lsF s f (runF gapZ s.data.toList (p.2 + 1)) (rgS L ++ [p.1]) else .ok (rgS L ++ [p.1], p.2)) := HK.out
    clear HK
    generalize sevF s 124 (s.size + 1) a [] = V at *
    have HC1 : Hid (Calls Tryd.prog 30 #[.pointer (some ⟨D, 0, none⟩)] wr fun e w' => SvAns wr w' e D s V) := HC
    clear HC
    go_wp2_with fail
    refine HC1.out.mono ?_
    intro e w2 h2
    cases V with
    | error p =>
      obtain ⟨rfl, he, hp, hx2⟩ := h2
      have HE : Hid (R = .error p) := HK2
      have hb : (p.1 != 0) = true := by simpa using he
      have HX2 : Hid (LkA w w2 D s p.2) := HX.out.trans22 hx2
      have HEr : Hid (p.1 ≠ 0) := he
      clear HK2 hx2 HSv HC1 he
      go_wp2
      go_returns
      rw [HE.out]
      exact ⟨rfl, HEr.out, hp, HX2.out⟩
    | ok p =>
      obtain ⟨N, q⟩ := p
      obtain ⟨va, vc, rfl, ho2, hx2⟩ := h2
      simp only at ho2 hx2
      obtain ⟨haq, hqs, hgq, hNl⟩ := HSv (N, q) rfl
      simp only at haq hqs hgq hNl
      have HK4 : Hid (R = if atB s q = 44 then lsF s f (runF gapZ s.data.toList (q + 1)) (rgS L ++ [N]) else .ok (rgS L ++ [N], q)) := HK2
      have HX2 : Hid (LkA w w2 D s q) := HX.out.trans22 hx2
      have HOl : Hid (OwnRs w.heap.size w2 (.slice a8 L.length c8) L) := HO.out.lk22 HDw.out hx2
      have hww : w.heap.size ≤ wr.heap.size := HX.out.2.size
      have HSt : Hid (St22 w.heap.size w2 (.slice a8 L.length c8) L (.slice va N.length vc) N) := HOl.out.st22 ho2 hww (fun x hx g e => (World.ownsRow.lt (HO.out.own x hx) g e).2)
      have HGq : Hid (runF gapZ s.data.toList q = q) := hgq
      clear HK2 HSv HC1 hx2 ho2 HX HO HOl hgq hNl hww
      simp only
      generalize N.length = nl at *
      have HRow2 : Hid ((w2.alloc (.cells #[.slice va nl vc] 26)).ownsRow w.heap.size 26 1 (.slice a8 L.length c8) L.length (rgC L)) := World.ownsRow.alloc HSt.out.t.row _
      have HNw2 : Hid (∀ j u, [Value.slice va nl vc][j]? = some u → (w2.alloc (.cells #[.slice va nl vc] 26)).cell? ((⟨w2.heap.size, 0, none⟩ : Addr).add j) = some u) := one_new22 w2 _ _
      have HPt2 : Hid (∀ v9 w9, w9.ownsRow w.heap.size 26 1 v9 (L.length + 1) (rgC L ++ [.slice va nl vc]) → Ap (w2.alloc (.cells #[.slice va nl vc] 26)) (.slice a8 L.length c8) w9 v9 → (OwnRs w.heap.size w9 v9 (L ++ [((.slice va nl vc), N)]) ∧ ∃ a9 c9, v9 = .slice a9 (L.length + 1) c9) ∧ LkA w w9 D s q) := fun v9 w9 o9 p9 => ⟨HSt.out.done o9 p9, HX2.out.app22 HDw.out (fun g e => (World.ownsRow.lt HSt.out.t.row g e).1) p9⟩
      have hsz9 : w.heap.size ≤ w2.heap.size := HX2.out.2.size
      go_upto_region 6 with (at_builtin; refine wpList_append_apk rfl (.tmp 19) (.tmp 21) 22 rfl w.heap.size 26 i1 (.slice none 0 0) 1 24 Tryd.underlying22 HIn1.out.1 HIn1.out.2.1 HIn1.out.2.2.1 HIn1.out.2.2.2 rfl (by decide) (.slice a8 L.length c8) L.length (rgC L) rfl HRow2.out ⟨w2.heap.size, 0, none⟩ 1 1 [.slice va nl vc] rfl rfl HNw2.out (by simp [Value.oneCell']) (by unfold maxLen; omega) (by omega) (by simp; omega) ?_; intro v9 w9 own9 ap9; obtain ⟨⟨s9, a9, c9, rfl⟩, b9⟩ := HPt2.out v9 w9 own9 ap9; have HT9 : Hid (OwnRs w.heap.size w9 (.slice a9 (L.length + 1) c9) (L ++ [((.slice va nl vc), N)])) := s9; have HX9 : Hid (LkA w w9 D s q) := b9; clear own9 ap9 s9 b9)
      clear HRow2 HNw2 HPt2 hsz9 HSt HX2
      have HC2 : Hid (Calls Tryd.prog 48 #[.pointer (some ⟨D, 0, none⟩), .int .i64 7] w9 fun e w' => e = .returned (.bool (lkF s q == 7)) ∧ LkA w9 w' D s (psA s q 7)) := by
        have := HPs.out w9 q HX9.out.1 hqs
        rw [HGq.out] at this
        exact this
      have HPq : Hid (psA s q 7 = if lkF s q = 7 then q + 1 else q) := rfl
      have hlk := HLk.out q
      by_cases hz : atB s q = 44
      · have hl : lkF s q = 7 := hlk.2 hz
        have hb : (lkF s q == 7) = true := by simpa using hl
        have hp : psA s q 7 = q + 1 := by rw [HPq.out, if_pos hl]
        rw [hb, hp] at HC2
        have hlt := at_lt22 (by decide) hz
        have g1 := runF_ge gapZ s.data.toList (q + 1)
        have g2 := runF_le22 gapZ s (k := q + 1) hlt
        have HKn : Hid (R = lsF s f (runF gapZ s.data.toList (q + 1)) (rgS L ++ [N])) := by show _ = _; rw [HK4.out, if_pos hz]
        clear HK4 HPq hlk hl hb hp hz
        go_wp2_with (go_at_call 48; refine HC2.out.mono ?_; rintro e w3 ⟨rfl, h9⟩; have HX3 : Hid (LkA w w3 D s (q + 1)) := HX9.out.trans22 h9; have HO3 : Hid (OwnRs w.heap.size w3 (.slice a9 (L.length + 1) c9) (L ++ [((.slice va nl vc), N)])) := HT9.out.lk22 HDw.out h9; clear h9)
        go_roundg f
        case measure => omega
        case rel => exact ⟨q + 1, L ++ [((.slice va nl vc), N)], a9, c9, by omega, hlt, by simp; omega, by simp, by rw [List.length_append]; exact HO3.out, by rw [rgS, List.map_append]; exact HKn.out, HX3.out⟩
      · have hl : ¬ lkF s q = 7 := fun h => hz (hlk.1 h)
        have hb : (lkF s q == 7) = false := by simpa using hl
        have hp : psA s q 7 = q := by rw [HPq.out, if_neg hl]
        rw [hb, hp] at HC2
        have HE : Hid (R = .ok (rgS L ++ [N], q)) := by show _ = _; rw [HK4.out, if_neg hz]
        clear HK4 HPq hlk hl hb hp hz
        go_wp2_with (go_at_call 48; refine HC2.out.mono ?_; rintro e w3 ⟨rfl, h9⟩; have HX3 : Hid (LkA w w3 D s q) := HX9.out.trans22 h9; have HO3 : Hid (OwnRs w.heap.size w3 (.slice a9 (L.length + 1) c9) (L ++ [((.slice va nl vc), N)])) := HT9.out.lk22 HDw.out h9; clear h9)
        go_returns
        rw [HE.out]
        exact ⟨a9, c9, L ++ [((.slice va nl vc), N)], by simp, by rw [List.length_append]; exact HO3.out, by rw [rgS, List.map_append]; rfl, hqs, HGq.out, HX3.out⟩

end Go.Proofs.YtmfcaoacklbkoaaDoor
set_option linter.unusedSimpArgs false
set_option linter.unusedVariables false
namespace Go.Proofs.YtmfcaoacklbkoaaDoor
open Go Go.RowKit

/-- what whole answers of lists -/
def WlAns (B : Nat) (w w' : World) (e : Ending) (D : Nat) : Except (Int × Int) (List (List Rl)) → Prop
  | .error p => e = .returned (.tuple #[.slice none 0 0, .int .i64 p.1, .int .i64 p.2]) ∧ w.grownBy w' (some D)
  | .ok l => ∃ v L, e = .returned (.tuple #[v, .int .i64 0, .int .i64 0]) ∧ OwnRs B w' v L ∧ rgS L = l ∧ w.grownBy w' (some D)
/-- .. of plain lists -/
def WpAns (B : Nat) (w w' : World) (e : Ending) (D : Nat) : Except (Int × Int) (List Rl) → Prop
  | .error p => e = .returned (.tuple #[.slice none 0 0, .int .i64 p.1, .int .i64 p.2]) ∧ w.grownBy w' (some D)
  | .ok l => ∃ v, e = .returned (.tuple #[v, .int .i64 0, .int .i64 0]) ∧ OwnR B w' v l ∧ w.grownBy w' (some D)
def whL (s : ByteArray) : Except (Int × Int) (List (List Rl)) := if runF gapZ s.data.toList 0 = s.size then .ok [] else whF s (lsF s (s.size + 1) (runF gapZ s.data.toList 0) [])
def whP (s : ByteArray) : Except (Int × Int) (List Rl) := if runF gapZ s.data.toList 0 = s.size then .ok [] else whF s (sevF s 44 (s.size + 1) (runF gapZ s.data.toList 0) [])
set_option maxHeartbeats 3200000 in
set_option maxRecDepth 20000 in
theorem wholeL22 (s : ByteArray) (D : Nat) (w : World) (hR : Rx w D s 0) (hT : OpT w) (hs : s.size ≤ 1099511627776) :
    Calls Tryd.prog 29 #[.pointer (some ⟨D, 0, none⟩), .func (.func 30) #[.pointer (some ⟨D, 0, none⟩)] #[]] w fun e w' => WlAns w.heap.size w w' e D (whL s) := by
  have ha := runF_le22 gapZ s (Nat.zero_le s.size)
  have HLo : Hid (∀ W j, Rx W D s j → j ≤ s.size → Calls Tryd.prog 44 #[.pointer (some ⟨D, 0, none⟩)] W fun e w' => e = .returned (.int .i64 (lkF s (runF gapZ s.data.toList j))) ∧ LkA W w' D s (runF gapZ s.data.toList j)) := fun W j h hj => look22 s j D W h hj (by omega)
  have HC1 := HLo.out w 0 hR (Nat.zero_le _)
  have HSt : Hid (runF gapZ s.data.toList (runF gapZ s.data.toList 0) = runF gapZ s.data.toList 0) := runF_stop (Nat.zero_le _)
  have HSv : Hid (∀ W j, Rx W D s j → OpT W → j ≤ s.size → Calls Tryd.prog 45 #[.pointer (some ⟨D, 0, none⟩), .int .i64 7, .func (.func 30) #[.pointer (some ⟨D, 0, none⟩)] #[]] W fun e w' => SlAns W w' e D s (lsF s (s.size + 1) (runF gapZ s.data.toList j) [])) := fun W j h ht hj => severalL22 s j D W h ht hj hs
  have HW : Hid (whL s = if runF gapZ s.data.toList 0 = s.size then .ok [] else whF s (lsF s (s.size + 1) (runF gapZ s.data.toList 0) [])) := rfl
  have HDw : Hid (D < w.heap.size) := hR.lt
  have HOT : Hid (∀ W a, LkA w W D s a → OpT W) := fun W a h => hT.lk hR h
  have HCl : Hid (Calls Tryd.prog 44 #[.pointer (some ⟨D, 0, none⟩)] w fun e w' => e = .returned (.int .i64 (lkF s (runF gapZ s.data.toList 0))) ∧ LkA w w' D s (runF gapZ s.data.toList 0)) := HC1
  clear HC1 hR hT
  generalize whL s = R at *
  generalize runF gapZ s.data.toList 0 = a at *
  go_enter Tryd.func29, Tryd.ntmps29
  go_wp2_with fail
  refine HCl.out.mono ?_
  rintro e w1 ⟨rfl, h1⟩
  have HX1 : Hid (LkA w w1 D s a) := h1
  clear h1 HCl
  by_cases h0 : a = s.size
  · have hl : lkF s a = 0 := lk_end.2 (by omega)
    have HE : Hid (R = .ok []) := by show _ = _; rw [HW.out, if_pos h0]
    rw [hl]
    clear hl HW h0
    go_wp2
    go_returns
    rw [HE.out]
    exact ⟨_, [], rfl, OwnRs.nil _ _, rfl, HX1.out.2⟩
  have hl : ¬ lkF s a = 0 := fun h => h0 (by have := lk_end.1 h; omega)
  have hb : (lkF s a == 0) = false := by simpa using hl
  have HW2 : Hid (R = whF s (lsF s (s.size + 1) a [])) := by show _ = _; rw [HW.out, if_neg h0]
  have HC2 := HSv.out w1 a HX1.out.1 (HOT.out _ _ HX1.out) ha
  rw [HSt.out] at HC2
  generalize lkF s a = L0 at *
  clear hl HW h0 HSt HSv HOT
  have HSl := fun (p : List Rl) (q : Nat) => (trivial : True)
  generalize lsF s (s.size + 1) a [] = V at *
  have HC3 : Hid (Calls Tryd.prog 45 #[.pointer (some ⟨D, 0, none⟩), .int .i64 7, .func (.func 30) #[.pointer (some ⟨D, 0, none⟩)] #[]] w1 fun e w' => SlAns w1 w' e D s V) := HC2
  clear HC2
  go_wp2_with fail
  refine HC3.out.mono ?_
  intro e w2 h2
  have hww : w.heap.size ≤ w1.heap.size := HX1.out.2.size
  cases V with
  | error p =>
    obtain ⟨rfl, he, hp, hx2⟩ := h2
    have HE : Hid (R = .error (p.1, (p.2 : Int))) := HW2.out
    have hb1 : (p.1 != 0) = true := by simpa using he
    have hb2 : (p.1 == 0) = false := by simpa using he
    have HX2 : Hid (LkA w w2 D s p.2) := HX1.out.trans22 hx2
    have c1 := HX2.out.1.c1
    clear HW2 hx2 HC3 he HLo HSl
    go_wp2_with fail
    go_quiet (fail)
    go_wp2
    go_returns
    rw [HE.out]
    exact ⟨rfl, (HX2.out.drewN _).2⟩
  | ok p =>
    obtain ⟨N, q⟩ := p
    obtain ⟨va, vc, L, rfl, ho2, hrg, hqs, hgq, hx2⟩ := h2
    try simp only at ho2 hrg hqs hgq hx2
    have HX2 : Hid (LkA w w2 D s q) := HX1.out.trans22 hx2
    have HO2 : Hid (OwnRs w.heap.size w2 (.slice va L.length vc) L) := ho2.mono hww
    have HC4 := HLo.out w2 q HX2.out.1 hqs
    rw [hgq] at HC4
    have HC5 : Hid (Calls Tryd.prog 44 #[.pointer (some ⟨D, 0, none⟩)] w2 fun e w' => e = .returned (.int .i64 (lkF s q)) ∧ LkA w2 w' D s q) := HC4
    have HW3 : Hid (R = if s.size ≤ q then .ok N else .error (220, (q : Int))) := HW2.out
    have HRg : Hid (rgS L = N) := hrg
    clear HC4 HW2 hx2 HC3 HLo HSl ho2 hgq hww hrg
    try simp only
    generalize L.length = nl at *
    by_cases hq : s.size ≤ q
    · have hl : lkF s q = 0 := lk_end.2 hq
      rw [hl] at HC5
      have HE : Hid (R = .ok N) := by show _ = _; rw [HW3.out, if_pos hq]
      clear hl HW3
      go_wp2_with (go_at_call 44; refine HC5.out.mono ?_; rintro e w3 ⟨rfl, h3⟩; have HX3 : Hid (LkA w w3 D s q) := HX2.out.trans22 h3; have HO3 : Hid (OwnRs w.heap.size w3 (.slice va nl vc) L) := HO2.out.lk22 HDw.out h3; clear h3)
      go_returns
      rw [HE.out]
      exact ⟨_, L, rfl, HO3.out, HRg.out, HX3.out.2⟩
    · have hl : ¬ lkF s q = 0 := fun h => hq (lk_end.1 h)
      have hb1 : (lkF s q != 0) = true := by simpa using hl
      generalize lkF s q = L1 at *
      have HE : Hid (R = .error (220, (q : Int))) := by show _ = _; rw [HW3.out, if_neg hq]
      clear hl HW3 hq
      go_wp2_with (go_at_call 44; refine HC5.out.mono ?_; rintro e w3 ⟨rfl, h3⟩; have HX3 : Hid (LkA w w3 D s q) := HX2.out.trans22 h3; have c1 := HX3.out.1.c1; clear h3)
      go_quiet (fail)
      go_wp2
      go_returns
      rw [HE.out]
      exact ⟨rfl, (HX3.out.drewN _).2⟩
set_option maxHeartbeats 3200000 in
set_option maxRecDepth 20000 in
theorem wholeP22 (s : ByteArray) (D : Nat) (w : World) (hR : Rx w D s 0) (hT : OpT w) (hs : s.size ≤ 1099511627776) :
    Calls Tryd.prog 31 #[.pointer (some ⟨D, 0, none⟩), .func (.func 32) #[.pointer (some ⟨D, 0, none⟩)] #[]] w fun e w' => WpAns w.heap.size w w' e D (whP s) := by
  have ha := runF_le22 gapZ s (Nat.zero_le s.size)
  have HLo : Hid (∀ W j, Rx W D s j → j ≤ s.size → Calls Tryd.prog 44 #[.pointer (some ⟨D, 0, none⟩)] W fun e w' => e = .returned (.int .i64 (lkF s (runF gapZ s.data.toList j))) ∧ LkA W w' D s (runF gapZ s.data.toList j)) := fun W j h hj => look22 s j D W h hj (by omega)
  have HC1 := HLo.out w 0 hR (Nat.zero_le _)
  have HSt : Hid (runF gapZ s.data.toList (runF gapZ s.data.toList 0) = runF gapZ s.data.toList 0) := runF_stop (Nat.zero_le _)
  have HSv : Hid (∀ W j, Rx W D s j → OpT W → j ≤ s.size → Calls Tryd.prog 46 #[.pointer (some ⟨D, 0, none⟩), .int .i64 7, .func (.func 32) #[.pointer (some ⟨D, 0, none⟩)] #[]] W fun e w' => SvAns W w' e D s (sevF s 44 (s.size + 1) (runF gapZ s.data.toList j) [])) := fun W j h ht hj => several22 s j D 7 44 W kd_7 (by decide) (by decide) h ht hj hs
  have HW : Hid (whP s = if runF gapZ s.data.toList 0 = s.size then .ok [] else whF s (sevF s 44 (s.size + 1) (runF gapZ s.data.toList 0) [])) := rfl
  have HDw : Hid (D < w.heap.size) := hR.lt
  have HOT : Hid (∀ W a, LkA w W D s a → OpT W) := fun W a h => hT.lk hR h
  have HCl : Hid (Calls Tryd.prog 44 #[.pointer (some ⟨D, 0, none⟩)] w fun e w' => e = .returned (.int .i64 (lkF s (runF gapZ s.data.toList 0))) ∧ LkA w w' D s (runF gapZ s.data.toList 0)) := HC1
  clear HC1 hR hT
  generalize whP s = R at *
  generalize runF gapZ s.data.toList 0 = a at *
  go_enter Tryd.func31, Tryd.ntmps31
  go_wp2_with fail
  refine HCl.out.mono ?_
  rintro e w1 ⟨rfl, h1⟩
  have HX1 : Hid (LkA w w1 D s a) := h1
  clear h1 HCl
  by_cases h0 : a = s.size
  · have hl : lkF s a = 0 := lk_end.2 (by omega)
    have HE : Hid (R = .ok []) := by show _ = _; rw [HW.out, if_pos h0]
    rw [hl]
    clear hl HW h0
    go_wp2
    go_returns
    rw [HE.out]
    exact ⟨_, rfl, OwnR.nil _ _, HX1.out.2⟩
  have hl : ¬ lkF s a = 0 := fun h => h0 (by have := lk_end.1 h; omega)
  have hb : (lkF s a == 0) = false := by simpa using hl
  have HW2 : Hid (R = whF s (sevF s 44 (s.size + 1) a [])) := by show _ = _; rw [HW.out, if_neg h0]
  have HC2 := HSv.out w1 a HX1.out.1 (HOT.out _ _ HX1.out) ha
  rw [HSt.out] at HC2
  generalize lkF s a = L0 at *
  clear hl HW h0 HSt HSv HOT
  have HSl := fun (p : List Rl) (q : Nat) => sev_ok (s := s) (Z := 44) (by decide) (s.size + 1) a [] (p, q) ha
  generalize sevF s 44 (s.size + 1) a [] = V at *
  have HC3 : Hid (Calls Tryd.prog 46 #[.pointer (some ⟨D, 0, none⟩), .int .i64 7, .func (.func 32) #[.pointer (some ⟨D, 0, none⟩)] #[]] w1 fun e w' => SvAns w1 w' e D s V) := HC2
  clear HC2
  go_wp2_with fail
  refine HC3.out.mono ?_
  intro e w2 h2
  have hww : w.heap.size ≤ w1.heap.size := HX1.out.2.size
  cases V with
  | error p =>
    obtain ⟨rfl, he, hp, hx2⟩ := h2
    have HE : Hid (R = .error (p.1, (p.2 : Int))) := HW2.out
    have hb1 : (p.1 != 0) = true := by simpa using he
    have hb2 : (p.1 == 0) = false := by simpa using he
    have HX2 : Hid (LkA w w2 D s p.2) := HX1.out.trans22 hx2
    have c1 := HX2.out.1.c1
    clear HW2 hx2 HC3 he HLo HSl
    go_wp2_with fail
    go_quiet (fail)
    go_wp2
    go_returns
    rw [HE.out]
    exact ⟨rfl, (HX2.out.drewN _).2⟩
  | ok p =>
    obtain ⟨N, q⟩ := p
    obtain ⟨va, vc, rfl, ho2, hx2⟩ := h2
    try simp only at ho2 hx2
    obtain ⟨-, hqs, hgq, -⟩ := HSl N q rfl
    try simp only at hqs hgq
    have HX2 : Hid (LkA w w2 D s q) := HX1.out.trans22 hx2
    have HO2 : Hid (OwnR w.heap.size w2 (.slice va N.length vc) N) := row_mono ho2 hww
    have HC4 := HLo.out w2 q HX2.out.1 hqs
    rw [hgq] at HC4
    have HC5 : Hid (Calls Tryd.prog 44 #[.pointer (some ⟨D, 0, none⟩)] w2 fun e w' => e = .returned (.int .i64 (lkF s q)) ∧ LkA w2 w' D s q) := HC4
    have HW3 : Hid (R = if s.size ≤ q then .ok N else .error (220, (q : Int))) := HW2.out
    have HRg : Hid (True) := trivial
    clear HC4 HW2 hx2 HC3 HLo HSl ho2 hgq hww 
    try simp only
    generalize N.length = nl at *
    by_cases hq : s.size ≤ q
    · have hl : lkF s q = 0 := lk_end.2 hq
      rw [hl] at HC5
      have HE : Hid (R = .ok N) := by show _ = _; rw [HW3.out, if_pos hq]
      clear hl HW3
      go_wp2_with (go_at_call 44; refine HC5.out.mono ?_; rintro e w3 ⟨rfl, h3⟩; have HX3 : Hid (LkA w w3 D s q) := HX2.out.trans22 h3; have HO3 : Hid (OwnR w.heap.size w3 (.slice va nl vc) N) := HO2.out.lk22 HDw.out h3; clear h3)
      go_returns
      rw [HE.out]
      exact ⟨_, rfl, HO3.out, HX3.out.2⟩
    · have hl : ¬ lkF s q = 0 := fun h => hq (lk_end.1 h)
      have hb1 : (lkF s q != 0) = true := by simpa using hl
      generalize lkF s q = L1 at *
      have HE : Hid (R = .error (220, (q : Int))) := by show _ = _; rw [HW3.out, if_neg hq]
      clear hl HW3 hq
      go_wp2_with (go_at_call 44; refine HC5.out.mono ?_; rintro e w3 ⟨rfl, h3⟩; have HX3 : Hid (LkA w w3 D s q) := HX2.out.trans22 h3; have c1 := HX3.out.1.c1; clear h3)
      go_quiet (fail)
      go_wp2
      go_returns
      rw [HE.out]
      exact ⟨rfl, (HX3.out.drewN _).2⟩

end Go.Proofs.YtmfcaoacklbkoaaDoor
set_option linter.unusedSimpArgs false
set_option linter.unusedVariables false
namespace Go.Proofs.YtmfcaoacklbkoaaDoor
open Go Go.RowKit

theorem blw_of_gr22 {w w' : World} {o : Obj} (h : (w.alloc o).grownBy w' (some w.heap.size)) : Below w.heap.size w w' := by
  have hsn : (w.alloc o).heap.size = w.heap.size + 1 := by simp
  refine ⟨h.os, h.tape, h.output, ?_, fun k hk => (h.block k (by omega) (fun e => by injection e with e; omega)).trans (Below.heap_alloc w o k hk)⟩
  have := h.size
  omega
theorem whL_eq (s : ByteArray) : whL s = lstF s true := (lstF_true s).symm
theorem whP_eq (s : ByteArray) : lisF (lstF s false) = (match whP s with | .error p => ([], p.1, p.2) | .ok l => (l, 0, 0)) := by
  rw [lstF_false]
  unfold whP
  split
  · rfl
  · cases whF s (sevF s 44 (s.size + 1) (runF gapZ s.data.toList 0) []) with
    | error p => rfl
    | ok l => simp [lisF, Function.comp_def]
set_option maxHeartbeats 1600000 in
set_option maxRecDepth 20000 in
theorem pRead22 (s : ByteArray) (w : World) (hT : OpT w) (hs : s.size ≤ 1099511627776) :
    Calls Tryd.prog 8 #[.string s] w fun e w' => LsAns w.heap.size w w' e (lstF s true) := by
  have hb : Below w.heap.size w (w.alloc (.cells #[.string s, .int .i64 0] 59)) := Below.alloc (Below.refl _ _) (Nat.le_refl _) _
  have HW : Hid (Calls Tryd.prog 29 #[.pointer (some ⟨w.heap.size, 0, none⟩), .func (.func 30) #[.pointer (some ⟨w.heap.size, 0, none⟩)] #[]] (w.alloc (.cells #[.string s, .int .i64 0] 59)) fun e w' => WlAns (w.alloc (.cells #[.string s, .int .i64 0] 59)).heap.size (w.alloc (.cells #[.string s, .int .i64 0] 59)) w' e w.heap.size (whL s)) := wholeL22 s w.heap.size _ (Rx.new w s 0) (hT.blw hb) hs
  rw [whL_eq] at HW
  clear hb hT
  generalize lstF s true = R at *
  go_enter Tryd.func8, Tryd.ntmps8
  go_wp2_with fail
  refine HW.out.mono ?_
  intro e w1 h1
  cases R with
  | error p =>
    obtain ⟨rfl, h2⟩ := h1
    have HB : Hid (Below w.heap.size w w1) := blw_of_gr22 h2
    clear h2 HW
    go_wp2
    go_returns
    exact ⟨rfl, HB.out⟩
  | ok l =>
    obtain ⟨v, L, rfl, h2, h3, h4⟩ := h1
    have HB : Hid (Below w.heap.size w w1) := blw_of_gr22 h4
    have HO : Hid (OwnRs w.heap.size w1 v L) := h2.mono (by simp)
    have HL : Hid (rgS L = l) := h3
    clear h2 h3 h4 HW
    go_wp2
    go_returns
    exact ⟨v, L, rfl, HO.out, HL.out, HB.out⟩
set_option maxHeartbeats 1600000 in
set_option maxRecDepth 20000 in
theorem pReadList22 (s : ByteArray) (w : World) (hT : OpT w) (hs : s.size ≤ 1099511627776) :
    Calls Tryd.prog 9 #[.string s] w fun e w' => ∃ v, e = .returned (.tuple #[v, .int .i64 (lisF (lstF s false)).2.1, .int .i64 (lisF (lstF s false)).2.2]) ∧ OwnR w.heap.size w' v (lisF (lstF s false)).1 ∧ Below w.heap.size w w' := by
  have hb : Below w.heap.size w (w.alloc (.cells #[.string s, .int .i64 0] 59)) := Below.alloc (Below.refl _ _) (Nat.le_refl _) _
  have HW : Hid (Calls Tryd.prog 31 #[.pointer (some ⟨w.heap.size, 0, none⟩), .func (.func 32) #[.pointer (some ⟨w.heap.size, 0, none⟩)] #[]] (w.alloc (.cells #[.string s, .int .i64 0] 59)) fun e w' => WpAns (w.alloc (.cells #[.string s, .int .i64 0] 59)).heap.size (w.alloc (.cells #[.string s, .int .i64 0] 59)) w' e w.heap.size (whP s)) := wholeP22 s w.heap.size _ (Rx.new w s 0) (hT.blw hb) hs
  rw [whP_eq]
  clear hb hT
  generalize whP s = R at *
  go_enter Tryd.func9, Tryd.ntmps9
  go_wp2_with fail
  refine HW.out.mono ?_
  intro e w1 h1
  cases R with
  | error p =>
    obtain ⟨rfl, h2⟩ := h1
    have HB : Hid (Below w.heap.size w w1) := blw_of_gr22 h2
    clear h2 HW
    go_wp2
    go_returns
    exact ⟨_, rfl, OwnR.nil _ _, HB.out⟩
  | ok l =>
    obtain ⟨v, rfl, h2, h4⟩ := h1
    have HB : Hid (Below w.heap.size w w1) := blw_of_gr22 h4
    have HO : Hid (OwnR w.heap.size w1 v l) := row_mono h2 (by simp)
    clear h2 h4 HW
    go_wp2
    go_returns
    exact ⟨v, rfl, HO.out, HB.out⟩

end Go.Proofs.YtmfcaoacklbkoaaDoor
set_option linter.unusedSimpArgs false
set_option linter.unusedVariables false
namespace Go.Proofs.YtmfcaoacklbkoaaDoor
open Go Go.RowKit

theorem app_none22 {P : Program} (w : World) (base : Nat) (t ty e : TypeId) (i : TypeInfo) (size c : Nat) (ht : P.underlying t = some (.slice e)) (hi : P.info? e = some i)
    (v : Value) (n : Nat) (xs : List Value) (hown : w.ownsRow base e size v n xs) : (Builtin.append_ #[t, t] ty #[v, .slice none 0 c]).run P w = .ok v w := by
  rcases hown.2 with ⟨rfl, rfl⟩ | ⟨g, cap, cur, rfl, _, _, hnc, _⟩
  · simp [Builtin.append_, run_underlying ht, sizeOf, typeInfo, hi, Builtin.lenOf, Builtin.firstCells]
  · simp [Builtin.append_, run_underlying ht, sizeOf, typeInfo, hi, Builtin.lenOf, Builtin.firstCells, hnc, storeCells]
theorem relC_app (A B : List Rl) : relC (A ++ B) = relC A ++ relC B := by simp [relC]
/-- append of relations that are read onto a row of the call's own -/
theorem run_append_r22 (w : World) (B : Nat) (ty : TypeId) (s xv : Value) (N rs : List Rl) (ho : OwnR B w s N) (hr : RdR w xv rs) (hB : B ≤ w.heap.size) (hb : (N.length + rs.length) * 40 ≤ 140737488355328) :
    ∃ v' w', (Builtin.append_ #[26, 26] ty #[s, xv]).run Tryd.prog w = .ok v' w' ∧ OwnR B w' v' (N ++ rs) ∧ w.grownBy w' s.ownBlock := by
  obtain ⟨il, hil, hzl0, hzl1, hzl2⟩ := info_parts infoR22
  obtain ⟨h40, ad, c, rfl, hc, hm, h2⟩ := hr
  cases ad with
  | none =>
    have hl0 : rs = [] := by
      rcases Classical.em (rs = []) with h | h
      · exact h
      · obtain ⟨b, off, e, _⟩ := h2 h; cases e
    subst hl0
    refine ⟨s, w, app_none22 (P := Tryd.prog) w B 26 ty 34 il 3 c Tryd.underlying26 hil s N.length _ ho, by rw [List.append_nil]; exact ho, ⟨rfl, rfl, rfl, Nat.le_refl _, fun _ _ _ => rfl⟩⟩
  | some ad =>
    have hnews : ∀ j u, (relC rs)[j]? = some u → w.cell? (ad.add j) = some u := by
      rcases Classical.em (rs = []) with h0 | h0
      · subst h0; intro j u hu; simp [relC] at hu
      · obtain ⟨b, off, e, hb, hcell⟩ := h2 h0
        obtain rfl : ad = ⟨b, off, none⟩ := by simpa using e
        intro j u hu
        have hj : j < rs.length * 3 := by
          have := (List.getElem?_eq_some_iff.1 hu).1
          rwa [relC_len] at this
        obtain ⟨e1, e2, e3⟩ := relC_at rs (j / 3) (by omega)
        obtain ⟨c1, c2, c3⟩ := hcell (j / 3) (by omega)
        rw [Addr.add_lit]
        have h3 : j % 3 = 0 ∨ j % 3 = 1 ∨ j % 3 = 2 := by omega
        rcases h3 with hm2 | hm2 | hm2
        · have ej : j / 3 * 3 = j := by omega
          rw [ej] at e1 c1
          rw [e1] at hu
          rw [c1]; exact hu
        · have ej : j / 3 * 3 + 1 = j := by omega
          have ej2 : off + j / 3 * 3 + 1 = off + j := by omega
          rw [ej] at e2
          rw [ej2] at c2
          rw [e2] at hu
          rw [c2]; exact hu
        · have ej : j / 3 * 3 + 2 = j := by omega
          have ej2 : off + j / 3 * 3 + 2 = off + j := by omega
          rw [ej] at e3
          rw [ej2] at c3
          rw [e3] at hu
          rw [c3]; exact hu
    have hone : ∀ u ∈ relC rs, u.oneCell' = true := fun u hu => by
      unfold relC at hu
      obtain ⟨x, hx, hu⟩ := List.mem_flatMap.1 hu
      simp at hu
      rcases hu with rfl | rfl | rfl <;> rfl
    obtain ⟨v', w', hrun, q1, q2, _⟩ := run_append_own (P := Tryd.prog) w B 26 ty 34 il (.agg #[.string ⟨#[]⟩, .int .i64 0, .string ⟨#[]⟩]) 3 40 Tryd.underlying26 hil hzl0 hzl1 hzl2 rfl (by decide) s N.length (relC N) ho ad rs.length c (relC rs) (relC_len rs) hnews hone (by unfold maxLen; omega) (by omega) hB
    refine ⟨v', w', hrun, ?_, q2⟩
    unfold OwnR
    rw [relC_app, List.length_append]
    exact q1
/-- the operation, as a walk meets it -/
theorem wpList_append_r22 {w : World} {ops : Array Oper} {rest : List Oper} {o : Oper} {a : Act} {Q : Exit → Act → World → Prop} (hgd : o.guard = none) (s x : Operand)
    (ho : o.op = .call { callee := .builtin .append, args := #[s, x], argTypes := #[26, 26] }) (B : Nat) (v : Value) (N : List Rl) (hs : a.eval s = v) (hown : OwnR B w v N)
    (xv : Value) (rs : List Rl) (hx : a.eval x = xv) (hr : RdR w xv rs) (hB : B ≤ w.heap.size) (hb : (N.length + rs.length) * 40 ≤ 140737488355328)
    (h : ∀ a' c' w', OwnR B w' (.slice a' (N ++ rs).length c') (N ++ rs) → w.grownBy w' v.ownBlock → wpList Tryd.prog ops Q rest (a.put o.dst (.slice a' (N ++ rs).length c')) w') : wpList Tryd.prog ops Q (o :: rest) a w := by
  obtain ⟨v', w', hrun, r1, r2⟩ := run_append_r22 w B o.type v xv N rs hown hr hB hb
  obtain ⟨a', c', rfl⟩ := row_form22 r1
  refine wpList_plain hgd fun K' hK => ?_
  unfold Oper.wp
  simp [execOp, ho, resolve, invoke, builtin, hs, hx, hrun, Result.andThen]
  have hh := h _ _ _ r1 r2
  rw [List.length_append] at hh
  exact hK _ _ hh
theorem blw_own22 {B : Nat} {w W W' : World} {v : Value} {N : List Rl} (hb : Below B w W) (hB : B ≤ W.heap.size) (ho : OwnR B W v N) (hg : W.grownBy W' v.ownBlock) : Below B w W' :=
  hb.grown hg hB fun q hq => (World.ownsRow.lt ho q hq).1

set_option maxHeartbeats 1600000 in
set_option maxRecDepth 20000 in
theorem copied22 (v : Value) (rs : List Rl) (w : World) (hr : RdR w v rs) :
    Calls Tryd.prog 26 #[v] w fun e w' => ∃ a c, e = .returned (.slice a rs.length c) ∧ OwnR w.heap.size w' (.slice a rs.length c) rs ∧ Below w.heap.size w w' := by
  have HR : Hid (RdR w v rs) := hr
  have HO : Hid (OwnR w.heap.size w (.slice none 0 0) []) := OwnR.nil _ _
  have h40 := hr.1
  obtain ⟨a, c, rfl, -, -, -⟩ := hr.at22
  clear hr
  go_enter Tryd.func26, Tryd.ntmps26
  go_wp2_with (at_builtin; refine wpList_append_r22 rfl (.tmp 4) (.tmp 5) rfl w.heap.size (.slice none 0 0) [] rfl HO.out (.slice a rs.length c) rs rfl HR.out (Nat.le_refl _) (by simp; omega) ?_; intro a' c' w' o' g'; have HO2 : Hid (OwnR w.heap.size w' (.slice a' rs.length c') rs) := o'; have HB2 : Hid (Below w.heap.size w w') := blw_own22 (Below.refl _ _) (Nat.le_refl _) HO.out g'; clear o' g'; simp only [List.nil_append])
  go_ret
  exact ⟨a', c', rfl, HO2.out, HB2.out⟩
theorem rgS_len22 (L : List RG) : (rgS L).length = L.length := by simp [rgS]
set_option maxHeartbeats 3200000 in
set_option maxRecDepth 100000 in
theorem copies22 (v : Value) (l : List (List Rl)) (w : World) (hr : RdRs w v l) :
    Calls Tryd.prog 12 #[v] w fun e w' => ∃ v' L, e = .returned v' ∧ OwnRs w.heap.size w' v' L ∧ rgS L = l ∧ Below w.heap.size w w' := by
  have hlen := hr.1
  obtain ⟨a, c, hv, hc, hm, -⟩ := hr.at22
  subst hv
  have HRc : Hid (∀ W, Below w.heap.size w W → ∀ k, k < l.length → ∃ b off u, a = some ⟨b, off, none⟩ ∧ W.cell? ⟨b, off + k, none⟩ = some u ∧ RdR W u (l.getD k [])) := fun W hb k hk => by
    obtain ⟨a', c', e', -, -, hcl⟩ := (hr.below22 hb).at22
    have e3 : a' = a := by injection e' with q1 q2 q3; exact q1.symm
    subst e3
    exact hcl k hk
  obtain ⟨i1, hi, hz0, hz1, hz2⟩ := info_parts infoRs22
  have HIn1 : Hid (Tryd.prog.info? 26 = some i1 ∧ i1.zero = some (.slice none 0 0) ∧ i1.size = 1 ∧ i1.bytes = 24) := ⟨hi, hz0, hz1, hz2⟩
  clear hi hz0 hz1 hz2 hr
  go_enter Tryd.func12, Tryd.ntmps12
  go_wp2
  go_loopg [3, 4] l.length (fun g o i wr => ∃ (k : Nat) (L : List RG) (a3 : Option Addr) (c3 : Nat), k + g = l.length ∧ i = .int .i64 k ∧ o = .slice a3 L.length c3 ∧ L.length = k ∧ Hid (OwnRs w.heap.size wr (.slice a3 L.length c3) L) ∧ Hid (rgS L = l.take k) ∧ Hid (Below w.heap.size w wr))
  case atStart => exact ⟨0, [], none, 0, by omega, rfl, rfl, rfl, OwnRs.nil _ _, rfl, Below.refl _ _⟩
  case round =>
    obtain ⟨k, L, a3, c3, hk, rfl, rfl, hLk, HS, HL, HB⟩ := hrel
    have HG : Hid (k + gk = l.length) := hk
    have HLk : Hid (L.length = k) := hLk
    by_cases hlt : k < l.length
    · obtain ⟨b, off, u, rfl, hcu, hru⟩ := HRc.out wr HB.out k hlt
      have HT : Hid (l.take (k + 1) = l.take k ++ [l.getD k []]) := by
        show _ = _
        rw [List.take_add_one]
        simp [List.getD_eq_getElem?_getD, hlt]
      generalize l.getD k [] = rs at *
      have HC : Hid (Calls Tryd.prog 26 #[u] wr fun e w' => ∃ a c, e = .returned (.slice a rs.length c) ∧ OwnR wr.heap.size w' (.slice a rs.length c) rs ∧ Below wr.heap.size wr w') := copied22 u rs wr hru
      obtain ⟨ua, uc, rfl, -, -, -⟩ := hru.at22
      have hlL : L.length < l.length := by omega
      clear hru hk hLk
      go_wp2_with fail
      refine HC.out.mono ?_
      rintro e w2 ⟨va, vc, rfl, o2, b2⟩
      have HB2 : Hid (Below w.heap.size w w2) := HB.out.trans (b2.mono HB.out.size)
      have HSt : Hid (St22 w.heap.size w2 (.slice a3 L.length c3) L (.slice va rs.length vc) rs) := by
        have h1 : OwnRs w.heap.size w2 (.slice a3 L.length c3) L := ⟨row_kept22 HS.out.row fun q e => b2.block q (World.ownsRow.lt HS.out.row q e).2, fun x hx => row_kept22 (HS.out.own x hx) fun q e => b2.block q (World.ownsRow.lt (HS.out.own x hx) q e).2, HS.out.ap⟩
        exact h1.st22 o2 HB.out.size fun x hx q e => (World.ownsRow.lt (HS.out.own x hx) q e).2
      clear HC o2 b2 hcu HS
      generalize rs.length = nl at *
      have HRow2 : Hid ((w2.alloc (.cells #[.slice va nl vc] 26)).ownsRow w.heap.size 26 1 (.slice a3 L.length c3) L.length (rgC L)) := World.ownsRow.alloc HSt.out.t.row _
      have HNw2 : Hid (∀ j u, [Value.slice va nl vc][j]? = some u → (w2.alloc (.cells #[.slice va nl vc] 26)).cell? ((⟨w2.heap.size, 0, none⟩ : Addr).add j) = some u) := one_new22 w2 _ _
      have HPt2 : Hid (∀ v9 w9, w9.ownsRow w.heap.size 26 1 v9 (L.length + 1) (rgC L ++ [.slice va nl vc]) → Ap (w2.alloc (.cells #[.slice va nl vc] 26)) (.slice a3 L.length c3) w9 v9 → (OwnRs w.heap.size w9 v9 (L ++ [((.slice va nl vc), rs)]) ∧ ∃ a9 c9, v9 = .slice a9 (L.length + 1) c9) ∧ Below w.heap.size w w9) := fun v9 w9 o9 p9 => ⟨HSt.out.done o9 p9, (Below.alloc HB2.out HB2.out.size _).grown p9.grown (Nat.le_trans HB2.out.size (by simp)) (fun q hq => (World.ownsRow.lt HSt.out.t.row q hq).1)⟩
      have hsz9 : w.heap.size ≤ w2.heap.size := HB2.out.size
      have hw1 : IntKind.i64.wrap ((k : Int) + 1) = (k : Int) + 1 := by rw [IntKind.wrap_i64]; omega
      go_wp2_with (at_builtin; refine wpList_append_apk rfl (.tmp 11) (.tmp 17) 22 rfl w.heap.size 26 i1 (.slice none 0 0) 1 24 Tryd.underlying22 HIn1.out.1 HIn1.out.2.1 HIn1.out.2.2.1 HIn1.out.2.2.2 rfl (by decide) (.slice a3 L.length c3) L.length (rgC L) rfl HRow2.out ⟨w2.heap.size, 0, none⟩ 1 1 [.slice va nl vc] rfl rfl HNw2.out (by simp [Value.oneCell']) (by unfold maxLen; omega) (by omega) (by simp; omega) ?_; intro v9 w9 own9 ap9; obtain ⟨⟨s9, a9, c9, rfl⟩, b9⟩ := HPt2.out v9 w9 own9 ap9; have HT9 : Hid (OwnRs w.heap.size w9 (.slice a9 (L.length + 1) c9) (L ++ [((.slice va nl vc), rs)])) := s9; have HB9 : Hid (Below w.heap.size w w9) := b9; clear own9 ap9 s9 b9)
      all_goals
        go_roundg (gk - 1)
        case measure => have := HG.out; omega
        case rel => exact ⟨k + 1, L ++ [((.slice va nl vc), rs)], a9, c9, by have := HG.out; omega, by first | rfl | go_num, by simp, by rw [List.length_append]; have := HLk.out; simp; omega, by rw [List.length_append]; exact HT9.out, by show _ = _; rw [HT.out, ← HL.out, rgS, List.map_append]; rfl, HB9.out⟩
    · have HE : Hid (rgS L = l) := by show _ = _; rw [HL.out, List.take_of_length_le (by omega)]
      clear hk hLk
      go_wp2
      go_ret
      exact ⟨_, L, rfl, HS.out, HE.out, HB.out⟩
theorem flat_take {l : List (List Rl)} {k : Nat} (h : k < l.length) : (l.take (k + 1)).flatten = (l.take k).flatten ++ l.getD k [] := by
  rw [List.take_add_one, List.flatten_append, List.getElem?_eq_getElem h, List.getD_eq_getElem?_getD, List.getElem?_eq_getElem h]
  simp
theorem flat_len {l : List (List Rl)} {k : Nat} : (l.take k).flatten.length ≤ l.flatten.length := by
  have := congrArg List.length (congrArg List.flatten (List.take_append_drop k l))
  rw [List.flatten_append, List.length_append] at this
  omega
set_option maxHeartbeats 3200000 in
set_option maxRecDepth 100000 in
theorem flat22 (v : Value) (l : List (List Rl)) (w : World) (hr : RdRs w v l) (hz : l.flatten.length * 40 ≤ 140737488355328) :
    Calls Tryd.prog 14 #[v] w fun e w' => ∃ a c, e = .returned (.slice a l.flatten.length c) ∧ OwnR w.heap.size w' (.slice a l.flatten.length c) l.flatten ∧ Below w.heap.size w w' := by
  have hlen := hr.1
  obtain ⟨a, c, hv, hc, hm, -⟩ := hr.at22
  subst hv
  have HRc : Hid (∀ W, Below w.heap.size w W → ∀ k, k < l.length → ∃ b off u, a = some ⟨b, off, none⟩ ∧ W.cell? ⟨b, off + k, none⟩ = some u ∧ RdR W u (l.getD k [])) := fun W hb k hk => by
    obtain ⟨a', c', e', -, -, hcl⟩ := (hr.below22 hb).at22
    have e3 : a' = a := by injection e' with q1 q2 q3; exact q1.symm
    subst e3
    exact hcl k hk
  have HZ : Hid (∀ k, k < l.length → ((l.take k).flatten.length + (l.getD k []).length) * 40 ≤ 140737488355328) := fun k hk => by
    have h1 := flat_take hk
    have h2 := flat_len (l := l) (k := k + 1)
    rw [h1, List.length_append] at h2
    omega
  have HEn : Hid ((l.take l.length).flatten = l.flatten) := by show _ = _; rw [List.take_length]
  clear hr hz
  generalize hFl : l.flatten = FL at *
  clear hFl
  go_enter Tryd.func14, Tryd.ntmps14
  go_wp2
  go_loopg [3, 4] l.length (fun g o i wr => ∃ (k : Nat) (N : List Rl) (a3 : Option Addr) (c3 : Nat), k + g = l.length ∧ i = .int .i64 k ∧ o = .slice a3 N.length c3 ∧ Hid (N = (l.take k).flatten) ∧ Hid (OwnR w.heap.size wr (.slice a3 N.length c3) N) ∧ Hid (Below w.heap.size w wr))
  case atStart => exact ⟨0, [], none, 0, by omega, rfl, rfl, rfl, OwnR.nil _ _, Below.refl _ _⟩
  case round =>
    obtain ⟨k, N, a3, c3, hk, rfl, rfl, HN, HO, HB⟩ := hrel
    have HG : Hid (k + gk = l.length) := hk
    by_cases hlt : k < l.length
    · obtain ⟨b, off, u, rfl, hcu, hru⟩ := HRc.out wr HB.out k hlt
      have HZk : Hid ((N.length + (l.getD k []).length) * 40 ≤ 140737488355328) := by have := HZ.out k hlt; rw [← HN.out] at this; exact this
      have HT : Hid ((l.take (k + 1)).flatten = N ++ l.getD k []) := by show _ = _; rw [flat_take hlt, ← HN.out]
      generalize l.getD k [] = rs at *
      have HRu : Hid (RdR wr u rs) := hru
      obtain ⟨ua, uc, rfl, -, -, -⟩ := hru.at22
      have hsz : w.heap.size ≤ wr.heap.size := HB.out.size
      have hw1 : IntKind.i64.wrap ((k : Int) + 1) = (k : Int) + 1 := by rw [IntKind.wrap_i64]; omega
      clear hru hk
      go_wp2_with (at_builtin; refine wpList_append_r22 rfl (.tmp 11) (.tmp 15) rfl w.heap.size (.slice a3 N.length c3) N rfl HO.out (.slice ua rs.length uc) rs rfl HRu.out hsz HZk.out ?_; intro a9 c9 w9 o9 g9; have HO9 : Hid (OwnR w.heap.size w9 (.slice a9 (N ++ rs).length c9) (N ++ rs)) := o9; have HB9 : Hid (Below w.heap.size w w9) := blw_own22 HB.out hsz HO.out g9; clear o9 g9)
      all_goals
        go_roundg (gk - 1)
        case measure => have := HG.out; omega
        case rel => exact ⟨k + 1, N ++ rs, a9, c9, by have := HG.out; omega, by first | rfl | go_num, by simp, HT.out.symm, HO9.out, HB9.out⟩
    · have hE : N = FL := by
        have e : k = l.length := by omega
        rw [HN.out, e, HEn.out]
      subst hE
      clear hk
      go_wp2
      go_ret
      exact ⟨_, _, rfl, HO.out, HB.out⟩

end Go.Proofs.YtmfcaoacklbkoaaDoor
