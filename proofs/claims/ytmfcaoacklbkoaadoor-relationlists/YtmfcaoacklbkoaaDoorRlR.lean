/-
  The program's word, operator, relation, walked (walks/genrlr.py writes it).
  KEEP: off c0 c1 c2 c3 c4 s0 s1 s2 s3 s4 newS rds lt f t q x len below nil form rd mono on app start at new trans refl kept own row out grown rdz set one more lt size cell some none letL tail next step go add put del get look no yes e c f b k n m box blw c0 c1 c2 s0 s1 s2 s3 newS drewN
-/
import Derived.Test.YtmfcaoacklbkoaaDoorRlO
set_option linter.unusedSimpArgs false
set_option linter.unusedVariables false
namespace Go.Proofs.YtmfcaoacklbkoaaDoor
open Go Go.RowKit

theorem LkA.trans22 {A B C : World} {D : Nat} {s : ByteArray} {a b : Nat} (h : LkA A B D s a) (k : LkA B C D s b) : LkA A C D s b := ⟨k.1, gr_trans22 h.2 k.2⟩
theorem LkA.blw22 {A B C : World} {D : Nat} {s : ByteArray} {a : Nat} (h : LkA A B D s a) (k : Below B.heap.size B C) : LkA A C D s a := ⟨h.1.blw k, gr_trans22 h.2 (gr_b22 k)⟩
theorem LkA.put22 {A B : World} {D : Nat} {s : ByteArray} {a : Nat} (h : LkA A B D s a) (j : Nat) : LkA A (B.setCell ⟨D, 1, none⟩ (.int .i64 j)) D s j := ⟨h.1.s1 j, gr_set22 h.2 _ _⟩
theorem two_new22 (W : World) (x y : Value) (T : TypeId) : ∀ j u, [x, y][j]? = some u → (W.alloc (.cells #[x, y] T)).cell? ⟨W.heap.size, j, none⟩ = some u := fun j u h => by
  have e := World.alloc_heap_new W (.cells #[x, y] T)
  rcases j with _ | _ | j
  · simp at h; subst h; exact cell_of22 e 0
  · simp at h; subst h; exact cell_of22 e 1
  · simp at h
/-- run of kinds in a row that was just made -/
theorem run22w (s : ByteArray) (k D : Nat) (W : World) (hR : Rx W D s k) (hk : k ≤ s.size) (hs : s.size ≤ 281474976710656) :
    Calls Tryd.prog 52 #[.pointer (some ⟨D, 0, none⟩), .slice (some ⟨W.heap.size, 0, none⟩) 2 2] (W.alloc (.cells #[.int .i64 2, .int .i64 3] 82)) fun e w' => e = .returned (.string (s.extract k (runF wrdZ s.data.toList k))) ∧ Below W.heap.size W w' := by
  have hb : Below W.heap.size W (W.alloc (.cells #[.int .i64 2, .int .i64 3] 82)) := Below.alloc (Below.refl _ _) (Nat.le_refl _) _
  refine (run22 [2, 3] wrdZ s k D W.heap.size 2 _ kd_wrd (hR.blw hb) hk hs (by decide) (by decide) (by decide) (fun j hj => ?_)).mono fun e w' ⟨q1, q2⟩ => ⟨q1, hb.trans (q2.mono hb.size)⟩
  refine two_new22 W _ _ _ j _ ?_
  have : j = 0 ∨ j = 1 := by simp at hj; omega
  rcases this with rfl | rfl <;> rfl
theorem run22s (s : ByteArray) (k D : Nat) (W : World) (hR : Rx W D s k) (hk : k ≤ s.size) (hs : s.size ≤ 281474976710656) :
    Calls Tryd.prog 52 #[.pointer (some ⟨D, 0, none⟩), .slice (some ⟨W.heap.size, 0, none⟩) 1 1] (W.alloc (.cells #[.int .i64 3] 82)) fun e w' => e = .returned (.string (s.extract k (runF sgnZ s.data.toList k))) ∧ Below W.heap.size W w' := by
  have hb : Below W.heap.size W (W.alloc (.cells #[.int .i64 3] 82)) := Below.alloc (Below.refl _ _) (Nat.le_refl _) _
  refine (run22 [3] sgnZ s k D W.heap.size 1 _ kd_sgn (hR.blw hb) hk hs (by decide) (by decide) (by decide) (fun j hj => ?_)).mono fun e w' ⟨q1, q2⟩ => ⟨q1, hb.trans (q2.mono hb.size)⟩
  have : j = 0 := by simpa using hj
  subst this
  exact cell_of22 (World.alloc_heap_new W _) 0

/-- a word: what is read, the error, the place -/
def wdF (s : ByteArray) (a : Nat) (ok : Bool) (wrong : Int) : ByteArray × Int × Nat :=
  if runF wrdZ s.data.toList a = a then (⟨#[]⟩, 220, a) else if ok = false then (⟨#[]⟩, wrong, a) else (s.extract a (runF wrdZ s.data.toList a), 0, runF wrdZ s.data.toList a)
def wdN (s : ByteArray) (a : Nat) (wrong : Int) : ByteArray × Int × Nat := wdF s a (rnmF (s.extract a (runF wrdZ s.data.toList a)).data.toList) wrong
def wdV (s : ByteArray) (a : Nat) (wrong : Int) : ByteArray × Int × Nat := wdF s a (okS (s.extract a (runF wrdZ s.data.toList a))) wrong
theorem ext_emp22 {s : ByteArray} {a t : Nat} (h1 : a ≤ t) (h2 : t ≤ s.size) : (s.extract a t).toList.isEmpty = decide (t = a) := by
  have hz : (s.extract a t).data.toList.length = t - a := by rw [size20, ByteArray.size_extract]; omega
  rw [ByteArray.toList_eq]
  by_cases e : t = a
  · rw [decide_eq_true e]
    have : (s.extract a t).data.toList = [] := List.length_eq_zero_iff.1 (by omega)
    rw [this]; rfl
  · rw [decide_eq_false e]
    cases h : (s.extract a t).data.toList with
    | nil => rw [h] at hz; simp at hz; omega
    | cons x r => rfl
set_option maxHeartbeats 3200000 in
set_option maxRecDepth 20000 in
theorem wordN22 (s : ByteArray) (k D : Nat) (wrong : Int) (w : World) (hR : Rx w D s k) (hk : k ≤ s.size) (hs : s.size ≤ 281474976710656) :
    Calls Tryd.prog 47 #[.pointer (some ⟨D, 0, none⟩), .func (.func 28) #[] #[], .int .i64 wrong] w fun e w' => e = .returned (.tuple #[.string (wdN s (runF gapZ s.data.toList k) wrong).1, .int .i64 (wdN s (runF gapZ s.data.toList k) wrong).2.1]) ∧ LkA w w' D s (wdN s (runF gapZ s.data.toList k) wrong).2.2 := by
  have has := runF_le22 gapZ s hk
  have HLo : Hid (Calls Tryd.prog 44 #[.pointer (some ⟨D, 0, none⟩)] w fun e w' => e = .returned (.int .i64 (lkF s (runF gapZ s.data.toList k))) ∧ LkA w w' D s (runF gapZ s.data.toList k)) := look22 s k D w hR hk hs
  clear hR hk
  generalize runF gapZ s.data.toList k = a at *
  have hat := runF_ge wrdZ s.data.toList a
  have hts := runF_le22 wrdZ s has
  have HRun : Hid (∀ W, Rx W D s a → Calls Tryd.prog 52 #[.pointer (some ⟨D, 0, none⟩), .slice (some ⟨W.heap.size, 0, none⟩) 2 2] (W.alloc (.cells #[.int .i64 2, .int .i64 3] 82)) fun e w' => e = .returned (.string (s.extract a (runF wrdZ s.data.toList a))) ∧ Below W.heap.size W w') := fun W h => run22w s a D W h has hs
  have HSu : Hid (∀ V, Calls Tryd.prog 28 #[.string (s.extract a (runF wrdZ s.data.toList a))] V fun e w' => e = .returned (.bool (rnmF (s.extract a (runF wrdZ s.data.toList a)).data.toList)) ∧ w' = V) := fun V => pName22 _ V (by rw [ByteArray.size_extract]; omega)
  have HEm := ext_emp22 hat hts
  have HWd : Hid (wdN s a wrong = if runF wrdZ s.data.toList a = a then (⟨#[]⟩, 220, a) else if (rnmF (s.extract a (runF wrdZ s.data.toList a)).data.toList) = false then (⟨#[]⟩, wrong, a) else (s.extract a (runF wrdZ s.data.toList a), 0, runF wrdZ s.data.toList a)) := rfl
  have hG : (s.extract a (runF wrdZ s.data.toList a)).size = runF wrdZ s.data.toList a - a := by rw [ByteArray.size_extract]; omega
  generalize wdN s a wrong = R at *
  generalize rnmF (s.extract a (runF wrdZ s.data.toList a)).data.toList = ok at *
  generalize runF wrdZ s.data.toList a = t at *
  have HCl : Hid (∀ V, Calls Tryd.prog 54 #[.string (s.extract a t)] V fun e w' => e = .returned (.string (s.extract a t)) ∧ Below V.heap.size V w') := fun V => clone20_any _ V (by omega)
  generalize s.extract a t = G at *
  go_enter Tryd.func47, Tryd.ntmps47
  go_wp2_with fail
  refine HLo.out.mono ?_
  rintro e w1 ⟨rfl, h1⟩
  have HX1 : Hid (LkA w w1 D s a) := h1
  clear h1 HLo
  have HRn : Hid (Calls Tryd.prog 52 #[.pointer (some ⟨D, 0, none⟩), .slice (some ⟨w1.heap.size, 0, none⟩) 2 2] (w1.alloc (.cells #[.int .i64 2, .int .i64 3] 82)) fun e w' => e = .returned (.string G) ∧ Below w1.heap.size w1 w') := HRun.out w1 HX1.out.1
  clear HRun
  go_wp2_with fail
  refine HRn.out.mono ?_
  rintro e w2 ⟨rfl, b2⟩
  have HX2 : Hid (LkA w w2 D s a) := HX1.out.blw22 b2
  clear b2 HX1 HRn
  by_cases hta : t = a
  · have hb : G.toList.isEmpty = true := by rw [HEm, decide_eq_true hta]
    have hb2 : G.toList = [] := by simpa using hb
    have HE : Hid (R = (⟨#[]⟩, 220, a)) := by show _ = _; rw [HWd.out, if_pos hta]
    clear HWd HEm hta HSu HCl
    go_wp2
    go_returns
    exact ⟨by rw [HE.out]; rfl, by rw [HE.out]; exact HX2.out⟩
  have hb : G.toList.isEmpty = false := by rw [HEm, decide_eq_false hta]
  have hb2 : ¬ G.toList = [] := by simpa using hb
  have HWd2 : Hid (R = if ok = false then (⟨#[]⟩, wrong, a) else (G, 0, t)) := by show _ = _; rw [HWd.out, if_neg hta]
  clear HWd HEm hta
  go_wp2_with fail
  refine (HSu.out _).mono ?_
  rintro e w3 ⟨rfl, b3⟩
  have HX3 : Hid (LkA w w3 D s a) := by rw [b3]; exact HX2.out
  clear b3 HX2 HSu
  cases ok
  · have HE : Hid (R = (⟨#[]⟩, wrong, a)) := HWd2.out
    clear HWd2 HCl
    go_wp2
    go_returns
    exact ⟨by rw [HE.out]; rfl, by rw [HE.out]; exact HX3.out⟩
  have HE : Hid (R = (G, 0, t)) := HWd2.out
  have c1 := HX3.out.1.c1
  have z1 := HX3.out.1.fz 1
  obtain ⟨m, hm⟩ : ∃ m, m = G.size := ⟨_, rfl⟩
  have hw1 : IntKind.i64.wrap ((a : Int) + (m : Int)) = (t : Int) := by rw [IntKind.wrap_i64]; omega
  have hmm : G.size = m := hm.symm
  clear hm HWd2 hG
  go_upto_region 8 with fail
  have HX4 : Hid (LkA w (w3.setCell ⟨D, 1, none⟩ (.int .i64 t)) D s t) := HX3.out.put22 t
  clear c1 z1 hw1 HX3
  generalize w3.setCell ⟨D, 1, none⟩ (.int .i64 t) = w4 at *
  go_wp2_with fail
  refine (HCl.out _).mono ?_
  rintro e w5 ⟨rfl, b5⟩
  have HX5 : Hid (LkA w w5 D s t) := HX4.out.blw22 b5
  clear b5
  go_wp2
  go_returns
  exact ⟨by rw [HE.out]; rfl, by rw [HE.out]; exact HX5.out⟩
set_option maxHeartbeats 3200000 in
set_option maxRecDepth 20000 in
theorem wordV22 (s : ByteArray) (k D : Nat) (wrong : Int) (w : World) (hR : Rx w D s k) (hk : k ≤ s.size) (hs : s.size ≤ 281474976710656) :
    Calls Tryd.prog 47 #[.pointer (some ⟨D, 0, none⟩), .func (.func 38) #[] #[], .int .i64 wrong] w fun e w' => e = .returned (.tuple #[.string (wdV s (runF gapZ s.data.toList k) wrong).1, .int .i64 (wdV s (runF gapZ s.data.toList k) wrong).2.1]) ∧ LkA w w' D s (wdV s (runF gapZ s.data.toList k) wrong).2.2 := by
  have has := runF_le22 gapZ s hk
  have HLo : Hid (Calls Tryd.prog 44 #[.pointer (some ⟨D, 0, none⟩)] w fun e w' => e = .returned (.int .i64 (lkF s (runF gapZ s.data.toList k))) ∧ LkA w w' D s (runF gapZ s.data.toList k)) := look22 s k D w hR hk hs
  clear hR hk
  generalize runF gapZ s.data.toList k = a at *
  have hat := runF_ge wrdZ s.data.toList a
  have hts := runF_le22 wrdZ s has
  have HRun : Hid (∀ W, Rx W D s a → Calls Tryd.prog 52 #[.pointer (some ⟨D, 0, none⟩), .slice (some ⟨W.heap.size, 0, none⟩) 2 2] (W.alloc (.cells #[.int .i64 2, .int .i64 3] 82)) fun e w' => e = .returned (.string (s.extract a (runF wrdZ s.data.toList a))) ∧ Below W.heap.size W w') := fun W h => run22w s a D W h has hs
  have HSu : Hid (∀ V, Calls Tryd.prog 38 #[.string (s.extract a (runF wrdZ s.data.toList a))] V fun e w' => e = .returned (.bool (okS (s.extract a (runF wrdZ s.data.toList a)))) ∧ Below V.heap.size V w') := fun V => legal20_any _ V (by rw [ByteArray.size_extract]; omega)
  have HEm := ext_emp22 hat hts
  have HWd : Hid (wdV s a wrong = if runF wrdZ s.data.toList a = a then (⟨#[]⟩, 220, a) else if (okS (s.extract a (runF wrdZ s.data.toList a))) = false then (⟨#[]⟩, wrong, a) else (s.extract a (runF wrdZ s.data.toList a), 0, runF wrdZ s.data.toList a)) := rfl
  have hG : (s.extract a (runF wrdZ s.data.toList a)).size = runF wrdZ s.data.toList a - a := by rw [ByteArray.size_extract]; omega
  generalize wdV s a wrong = R at *
  generalize okS (s.extract a (runF wrdZ s.data.toList a)) = ok at *
  generalize runF wrdZ s.data.toList a = t at *
  have HCl : Hid (∀ V, Calls Tryd.prog 54 #[.string (s.extract a t)] V fun e w' => e = .returned (.string (s.extract a t)) ∧ Below V.heap.size V w') := fun V => clone20_any _ V (by omega)
  generalize s.extract a t = G at *
  go_enter Tryd.func47, Tryd.ntmps47
  go_wp2_with fail
  refine HLo.out.mono ?_
  rintro e w1 ⟨rfl, h1⟩
  have HX1 : Hid (LkA w w1 D s a) := h1
  clear h1 HLo
  have HRn : Hid (Calls Tryd.prog 52 #[.pointer (some ⟨D, 0, none⟩), .slice (some ⟨w1.heap.size, 0, none⟩) 2 2] (w1.alloc (.cells #[.int .i64 2, .int .i64 3] 82)) fun e w' => e = .returned (.string G) ∧ Below w1.heap.size w1 w') := HRun.out w1 HX1.out.1
  clear HRun
  go_wp2_with fail
  refine HRn.out.mono ?_
  rintro e w2 ⟨rfl, b2⟩
  have HX2 : Hid (LkA w w2 D s a) := HX1.out.blw22 b2
  clear b2 HX1 HRn
  by_cases hta : t = a
  · have hb : G.toList.isEmpty = true := by rw [HEm, decide_eq_true hta]
    have hb2 : G.toList = [] := by simpa using hb
    have HE : Hid (R = (⟨#[]⟩, 220, a)) := by show _ = _; rw [HWd.out, if_pos hta]
    clear HWd HEm hta HSu HCl
    go_wp2
    go_returns
    exact ⟨by rw [HE.out]; rfl, by rw [HE.out]; exact HX2.out⟩
  have hb : G.toList.isEmpty = false := by rw [HEm, decide_eq_false hta]
  have hb2 : ¬ G.toList = [] := by simpa using hb
  have HWd2 : Hid (R = if ok = false then (⟨#[]⟩, wrong, a) else (G, 0, t)) := by show _ = _; rw [HWd.out, if_neg hta]
  clear HWd HEm hta
  go_wp2_with fail
  refine (HSu.out _).mono ?_
  rintro e w3 ⟨rfl, b3⟩
  have HX3 : Hid (LkA w w3 D s a) := HX2.out.blw22 b3
  clear b3 HX2 HSu
  cases ok
  · have HE : Hid (R = (⟨#[]⟩, wrong, a)) := HWd2.out
    clear HWd2 HCl
    go_wp2
    go_returns
    exact ⟨by rw [HE.out]; rfl, by rw [HE.out]; exact HX3.out⟩
  have HE : Hid (R = (G, 0, t)) := HWd2.out
  have c1 := HX3.out.1.c1
  have z1 := HX3.out.1.fz 1
  obtain ⟨m, hm⟩ : ∃ m, m = G.size := ⟨_, rfl⟩
  have hw1 : IntKind.i64.wrap ((a : Int) + (m : Int)) = (t : Int) := by rw [IntKind.wrap_i64]; omega
  have hmm : G.size = m := hm.symm
  clear hm HWd2 hG
  go_upto_region 8 with fail
  have HX4 : Hid (LkA w (w3.setCell ⟨D, 1, none⟩ (.int .i64 t)) D s t) := HX3.out.put22 t
  clear c1 z1 hw1 HX3
  generalize w3.setCell ⟨D, 1, none⟩ (.int .i64 t) = w4 at *
  go_wp2_with fail
  refine (HCl.out _).mono ?_
  rintro e w5 ⟨rfl, b5⟩
  have HX5 : Hid (LkA w w5 D s t) := HX4.out.blw22 b5
  clear b5
  go_wp2
  go_returns
  exact ⟨by rw [HE.out]; rfl, by rw [HE.out]; exact HX5.out⟩

end Go.Proofs.YtmfcaoacklbkoaaDoor
