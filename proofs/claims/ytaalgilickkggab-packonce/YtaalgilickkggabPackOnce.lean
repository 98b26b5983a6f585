/-
  PackOnce, walked.
  KEEP: len below nil form rd mono rdz on app start at new trans refl kept own row ap out step take
-/
import Derived.Test.YtaalgilickkggabPkF
import Derived.Test.YtaalgilickkggabPkQ
set_option linter.unusedSimpArgs false
set_option linter.unusedVariables false
namespace Go.Proofs.Ytaalgilickkggab
open Go Go.RowKit

theorem stp_sum_le : ∀ l : List Stp, (l.map (fun x => x.2.length)).sum + 2 * l.length ≤ (encB l).length
  | [] => by simp
  | x :: l => by
    have := stp_sum_le l
    have h1 := litsB_len x.2
    have e : encB (x :: l) = stpB x ++ encB l := rfl
    have e2 : (stpB x).length = (litsB x.2).length + 2 := by simp [stpB]
    rw [e, List.length_append]
    simp only [List.map_cons, List.sum_cons, List.length_cons]
    omega
theorem ez_of {l : List Stp} {T : List UInt8} (h : T = encB l) (hT : T.length ≤ 1048576) : ez l ≤ 1099511627776 := by
  have := stp_sum_le l
  rw [← h] at this
  unfold ez; omega
theorem mem_le_sum : ∀ (l : List Stp) (x : Stp), x ∈ l → x.2.length ≤ (l.map (fun x => x.2.length)).sum
  | y :: r, x, h => by
    simp only [List.map_cons, List.sum_cons]
    rcases List.mem_cons.1 h with rfl | h
    · omega
    · have := mem_le_sum r x h; omega
theorem enc_each {l : List Stp} {T : List UInt8} (h : T = encB l) (hT : T.length ≤ 1048576) : l.length ≤ 1048576 ∧ ∀ x ∈ l, x.2.length ≤ 1048576 := by
  have h1 := stp_sum_le l
  rw [← h] at h1
  refine ⟨by omega, fun x hx => ?_⟩
  have : x.2.length ≤ (l.map (fun x => x.2.length)).sum := mem_le_sum l x hx
  omega
theorem RdY.take {w : World} {b off c : Nat} {T : List UInt8} (h : RdY w (.slice (some ⟨b, off, none⟩) T.length c) T) (q : Nat) (hq : q ≤ T.length) : RdY w (.slice (some ⟨b, off, none⟩) q c) (T.take q) := by
  obtain ⟨h1, a, c', e, hc, hm, hn, h2⟩ := h
  injection e with e1 e2 e3
  subst e1; subst e3
  have hl : (T.take q).length = q := by rw [List.length_take]; omega
  refine ⟨by rw [hl]; omega, _, c, by rw [hl], by rw [hl]; omega, hm, fun h => (by cases h), fun hne => ?_⟩
  obtain ⟨b', off', e', hb, hcell⟩ := h2 (by intro e; subst e; simp at hne)
  injection e' with e'
  injection e' with q1 q2
  subst q1; subst q2
  refine ⟨b, off, rfl, hb, fun j hj => ?_⟩
  rw [hl] at hj
  rw [hcell j (by omega)]
  simp [List.getD_eq_getElem?_getD, List.getElem?_take, hj]

namespace packOnce
set_option maxHeartbeats 3200000 in
set_option maxRecDepth 100000 in
theorem walk (s : Value) (T : List UInt8) (w : World) (hr : RdY w s T) (hb : T.length ≤ 1048576) :
    Calls Try.prog 3 #[s] w fun e w' => e = .returned (.bool true) ∧ RowKit.Below w.heap.size w w' := by
  have hl := hr.len
  have HR : Hid (RdY w s T) := hr
  obtain ⟨i0, hi, hz0, hz1, hz2⟩ := info_parts infoY
  obtain ⟨a, c, rfl, hc, hm, hcell⟩ := hr.form
  have HD : Hid (∀ W v U, RdY W v U → U.length ≤ 1048577 → Calls Try.prog 4 #[v] W (DecP W (decB U))) := fun W v U h hU => decode_any W v U h (by omega)
  have HCell : Hid (∀ k, k < T.length → ∃ b off, a = some ⟨b, off, none⟩ ∧ b < w.heap.size ∧ w.cell? ⟨b, off + k, none⟩ = some (.int .u8 (T.getD k 0).toNat)) := hcell
  clear hr hcell
  rcases dec_say T with ⟨l, hs, hd, hT⟩ | hd | ⟨q, hd, hq, hd1, hy1, hy2⟩ | ⟨q, E, hE, hd, hq, hd1, hd2⟩
  · have HD1 : Hid (∀ W v, RdY W v T → Calls Try.prog 4 #[v] W (DecP W (l, 0, 0))) := fun W v h => by have := HD.out W v T h (by omega); rwa [hd] at this
    obtain ⟨hl1, hl2⟩ := enc_each hT hb
    have HE : Hid (∀ W v, RdZ W v l → Calls Try.prog 6 #[v] W fun e w' => ∃ v, e = .returned (.tuple #[v, .int .i64 0]) ∧ OwnT W.heap.size w' v T ∧ Below W.heap.size W w') := fun W v h => by
      have := encode_any v l W h (ez_of hT hb)
      rw [hs] at this
      rw [hT]; exact this
    have H8 : Hid (∀ x ∈ l, x.2.length * 8 ≤ 140737488351232) := fun x hx => by have := hl2 x hx; omega
    have hl32 : l.length * 32 ≤ 140737488351232 := by omega
    clear HD hd hT hl2 HCell hs
    go_enter Try.func3, Try.ntmps3
    go_wp2_with fail
    refine (copiedY_any _ T _ HR.out).mono ?_
    rintro e w1 ⟨u1, rfl, own1, bel1⟩
    have R1 : Hid (RdY w1 u1 T) := own1.rd hl
    have R0 : Hid (RdY w1 (.slice a T.length c) T) := HR.out.below bel1
    obtain ⟨ua, uc, rfl⟩ := own1.form
    clear own1
    go_wp2_with fail
    refine (HD1.out w1 _ R1.out).mono ?_
    rintro e w2 ⟨v2, rfl, own2, bel2⟩
    dsimp only at *
    have Z2 : Hid (RdZ w2 v2 l) := own2.rdz hl32 H8.out
    have R2 : Hid (RdY w2 (.slice a T.length c) T) := R0.out.below bel2
    obtain ⟨va, vc, rfl⟩ := own2.form
    clear own2
    go_wp2_with fail
    refine (copySteps_any _ l _ Z2.out).mono ?_
    rintro e w3 ⟨u3, rfl, own3, bel3⟩
    have Z3 : Hid (RdZ w3 u3 l) := own3.rdz hl32 H8.out
    have R3 : Hid (RdY w3 (.slice a T.length c) T) := R2.out.below bel3
    obtain ⟨xa, xc, rfl⟩ := own3.form
    clear own3
    go_wp2_with fail
    refine (HE.out w3 _ Z3.out).mono ?_
    rintro e w4 ⟨v4, rfl, own4, bel4⟩
    have R4 : Hid (RdY w4 v4 T) := own4.rd hl
    have R5 : Hid (RdY w4 (.slice a T.length c) T) := R3.out.below bel4
    obtain ⟨ya, yc, rfl⟩ := own4.form
    clear own4
    have HS : Hid (Calls Try.prog 8 #[.slice ya T.length yc, .slice a T.length c] w4 fun e w' => e = .returned (.bool true) ∧ Below w4.heap.size w4 w') := by
      have := sameY_any _ _ _ _ w4 R4.out R5.out
      rwa [show (T == T) = true from beq_self_eq_true _] at this
    go_wp2_with (go_at_call 8; refine HS.out.mono ?_; rintro e w7 ⟨rfl, bel7⟩)
    go_ret
    exact ⟨rfl, Below.step (Below.step (Below.step (Below.step bel1 bel2) bel3) bel4) bel7⟩
  · have HD1 : Hid (∀ W v, RdY W v T → Calls Try.prog 4 #[v] W (DecP W ([], 33, T.length))) := fun W v h => by have := HD.out W v T h (by omega); rwa [hd] at this
    have hTT : ((T.length : Int) == (T.length : Int)) = true := beq_self_eq_true _
    clear HD hd HCell
    go_enter Try.func3, Try.ntmps3
    go_wp2_with fail
    refine (copiedY_any _ T _ HR.out).mono ?_
    rintro e w1 ⟨u1, rfl, own1, bel1⟩
    have R1 : Hid (RdY w1 u1 T) := own1.rd hl
    obtain ⟨ua, uc, rfl⟩ := own1.form
    clear own1
    go_wp2_with fail
    refine (HD1.out w1 _ R1.out).mono ?_
    rintro e w2 ⟨v2, rfl, own2, bel2⟩
    dsimp only at *
    obtain ⟨va, vc, rfl⟩ := own2.form
    clear own2
    go_wp2
    go_ret
    exact ⟨rfl, Below.step bel1 bel2⟩
  · obtain ⟨U, hU⟩ : ∃ U, U = T.take q := ⟨_, rfl⟩
    have hUl : U.length = q := by rw [hU, List.length_take]; omega
    rw [← hU] at hd1
    have HTk : Hid (∀ W, Below w.heap.size w W → ∀ b off, a = some ⟨b, off, none⟩ → RdY W (.slice (some ⟨b, off, none⟩) q c) U) := fun W hW b off ha => by
      subst ha
      rw [hU]; exact (HR.out.take q (by omega)).below hW
    have HY : Hid (U.length = q) := hUl
    clear hU
    have HD1 : Hid (∀ W v, RdY W v T → Calls Try.prog 4 #[v] W (DecP W ([], 100, q))) := fun W v h => by have := HD.out W v T h (by omega); rwa [hd] at this
    have HD2 : Hid (∀ W v, RdY W v (U) → Calls Try.prog 4 #[v] W fun e w' => ∃ (v : Value) (x : Nat) (P : Int), e = .returned (.tuple #[v, .int .i64 0, .int .i64 P]) ∧ (∃ a c, v = .slice a x c) ∧ Below W.heap.size W w') := fun W v h => by
      have := HD.out W v (U) h (by omega)
      refine this.mono fun e w' ⟨v, h1, h2, h3⟩ => ⟨v, _, ((decB U).2.2 : Int), ?_, h2.form, h3⟩
      rw [h1, hd1]
    have hqT : ((q : Int) == (T.length : Int)) = false := beq_eq_false_iff_ne.2 (by omega)
    obtain ⟨b, off, rfl, hbl, hcq⟩ := HCell.out q hq
    generalize hyy : T.getD q 0 = y at *
    have hyl : y.toNat < 256 := y.toNat_lt
    have hb97 : ((y.toNat : Int) == 97) = false := beq_eq_false_iff_ne.2 (fun e => hy1 (UInt8.toNat_inj.1 ((by omega : y.toNat = 97).trans rfl)))
    have hb100 : ((y.toNat : Int) == 100) = false := beq_eq_false_iff_ne.2 (fun e => hy2 (UInt8.toNat_inj.1 ((by omega : y.toNat = 100).trans rfl)))
    clear HD hd hd1 HCell hy1 hy2 hyy hUl
    go_enter Try.func3, Try.ntmps3
    go_wp2_with fail
    refine (copiedY_any _ T _ HR.out).mono ?_
    rintro e w1 ⟨u1, rfl, own1, bel1⟩
    have R1 : Hid (RdY w1 u1 T) := own1.rd hl
    obtain ⟨ua, uc, rfl⟩ := own1.form
    clear own1
    go_wp2_with fail
    refine (HD1.out w1 _ R1.out).mono ?_
    rintro e w2 ⟨v2, rfl, own2, bel2⟩
    dsimp only at *
    obtain ⟨va, vc, rfl⟩ := own2.form
    have B2 : Hid (Below w.heap.size w w2) := Below.step bel1 bel2
    have RT : Hid (RdY w2 (.slice (some ⟨b, off, none⟩) q c) (U)) := HTk.out _ B2.out _ _ rfl
    clear own2 bel1 bel2
    go_wp2_with fail
    refine (copiedY_any _ (U) _ RT.out).mono ?_
    rintro e w3 ⟨u3, rfl, own3, bel3⟩
    have R3 : Hid (RdY w3 u3 (U)) := own3.rd (by have := HY.out; omega)
    obtain ⟨ya, yc, rfl⟩ := own3.form
    clear own3
    go_wp2_with fail
    refine (copiedY_any _ (U) _ R3.out).mono ?_
    rintro e w4 ⟨u4, rfl, own4, bel4⟩
    have R4 : Hid (RdY w4 u4 (U)) := own4.rd (by have := HY.out; omega)
    obtain ⟨za, zc, rfl⟩ := own4.form
    clear own4
    go_wp2_with fail
    refine (HD2.out w4 _ R4.out).mono ?_
    rintro e w5 ⟨v5, x5, P5, rfl, ⟨a5, c5, rfl⟩, bel5⟩
    have B5 : Hid (Below w.heap.size w w5) := Below.step (Below.step (Below.step B2.out bel3) bel4) bel5
    have hcy : w5.cell? ⟨b, off + q, none⟩ = some (.int .u8 y.toNat) := (B5.out.cell (p := ⟨b, off + q, none⟩) hbl).trans hcq
    have hq97 : ((y.toNat : Int) != 97) = true := by rw [bne, hb97]; rfl
    have hq100 : ((y.toNat : Int) != 100) = true := by rw [bne, hb100]; rfl
    clear bel3 bel4 bel5 hcq
    go_wp2
    go_ret
    exact ⟨rfl, B5.out⟩
  · obtain ⟨U, hU⟩ : ∃ U, U = T.take q := ⟨_, rfl⟩
    have hUl : U.length = q := by rw [hU, List.length_take]; omega
    rw [← hU] at hd1 hd2
    have HTk : Hid (∀ W, Below w.heap.size w W → ∀ b off, a = some ⟨b, off, none⟩ → RdY W (.slice (some ⟨b, off, none⟩) q c) U) := fun W hW b off ha => by
      subst ha
      rw [hU]; exact (HR.out.take q (by omega)).below hW
    have HY : Hid (U.length = q) := hUl
    clear hU
    have HD1 : Hid (∀ W v, RdY W v T → Calls Try.prog 4 #[v] W (DecP W ([], E, q))) := fun W v h => by have := HD.out W v T h (by omega); rwa [hd] at this
    have HD2 : Hid (∀ W v, RdY W v (U) → Calls Try.prog 4 #[v] W fun e w' => ∃ (v : Value) (x : Nat), e = .returned (.tuple #[v, .int .i64 33, .int .i64 q]) ∧ (∃ a c, v = .slice a x c) ∧ Below W.heap.size W w') := fun W v h => by
      have := HD.out W v (U) h (by omega)
      refine this.mono fun e w' ⟨v, h1, h2, h3⟩ => ⟨v, _, ?_, h2.form, h3⟩
      rw [h1, hd1]
    have HD3 : Hid (∀ W v, RdY W v (U ++ [0]) → Calls Try.prog 4 #[v] W fun e w' => ∃ (v : Value) (x : Nat) (P : Int), e = .returned (.tuple #[v, .int .i64 0, .int .i64 P]) ∧ (∃ a c, v = .slice a x c) ∧ Below W.heap.size W w') := fun W v h => by
      have := HD.out W v (U ++ [0]) h (by rw [List.length_append, hUl]; simp; omega)
      refine this.mono fun e w' ⟨v, h1, h2, h3⟩ => ⟨v, _, ((decB (U ++ [0])).2.2 : Int), ?_, h2.form, h3⟩
      rw [h1, hd2]
    have hqT : ((q : Int) == (T.length : Int)) = false := beq_eq_false_iff_ne.2 (by omega)
    have hqq : ((q : Int) == (q : Int)) = true := beq_self_eq_true _
    obtain ⟨b, off, rfl, hbl, _⟩ := HCell.out q hq
    clear HD hd hd1 hd2 HCell hUl
    rcases hE with rfl | rfl
    all_goals
      go_enter Try.func3, Try.ntmps3
      go_wp2_with fail
      refine (copiedY_any _ T _ HR.out).mono ?_
      rintro e w1 ⟨u1, rfl, own1, bel1⟩
      have R1 : Hid (RdY w1 u1 T) := own1.rd hl
      obtain ⟨ua, uc, rfl⟩ := own1.form
      clear own1
      go_wp2_with fail
      refine (HD1.out w1 _ R1.out).mono ?_
      rintro e w2 ⟨v2, rfl, own2, bel2⟩
      dsimp only at *
      obtain ⟨va, vc, rfl⟩ := own2.form
      have B2 : Hid (Below w.heap.size w w2) := Below.step bel1 bel2
      have RT : Hid (RdY w2 (.slice (some ⟨b, off, none⟩) q c) (U)) := HTk.out _ B2.out _ _ rfl
      clear own2 bel1 bel2
      go_wp2_with fail
      refine (copiedY_any _ (U) _ RT.out).mono ?_
      rintro e w3 ⟨u3, rfl, own3, bel3⟩
      have R3 : Hid (RdY w3 u3 (U)) := own3.rd (by have := HY.out; omega)
      have O3 : Hid (OwnT w2.heap.size w3 u3 (U)) := own3
      obtain ⟨ya, yc, rfl⟩ := own3.form
      clear own3
      go_wp2_with fail
      refine (copiedY_any _ (U) _ R3.out).mono ?_
      rintro e w4 ⟨u4, rfl, own4, bel4⟩
      have R4 : Hid (RdY w4 u4 (U)) := own4.rd (by have := HY.out; omega)
      have O4 : Hid (OwnT w2.heap.size w4 _ (U)) := O3.out.below bel4
      obtain ⟨za, zc, rfl⟩ := own4.form
      clear own4
      go_wp2_with fail
      refine (HD2.out w4 _ R4.out).mono ?_
      rintro e w5 ⟨v5, x5, rfl, ⟨a5, c5, rfl⟩, bel5⟩
      have O5 : Hid (OwnT w2.heap.size w5 _ (U)) := O4.out.below bel5
      have BB5 : Hid (Below w2.heap.size w2 w5) := Below.step (Below.step bel3 bel4) bel5
      have hs5 := BB5.out.size
      have hYl := HY.out
      clear bel3 bel4 bel5 R3 R4
      have hUl : U.length ≤ 1048576 := by omega
      have HU : Hid (U.length = q) := hYl
      clear hYl HY
      go_wp2_with (at_builtin; refine wpList_append_own _ rfl _ _ 22 rfl w2.heap.size 5 i0 (.int .u8 0) 1 1 Try.underlying22 hi hz0 hz1 hz2 rfl (by decide) _ U.length (Lib.byteCells U) rfl (World.ownsRow.alloc O5.out _) _ 1 1 [.int .u8 0] rfl rfl (cell_one_new _ _ _) (by simp [Value.oneCell']) (by unfold maxLen; omega) (by omega) (by simp; omega) ?_; intro v6 w6 own6 gr6 hn6; refine Hid.out ?_)
      refine Lib.hid ?_
      have O6 : OwnT w2.heap.size w6 v6 (U ++ [0]) := OwnT.one (b := 0) own6
      have R6 : Hid (RdY w6 v6 (U ++ [0])) := O6.rd (by simp; omega)
      have B6 : Hid (Below w2.heap.size w2 w6) := (BB5.out.alloc hs5 _).grown gr6 (by simp; omega) (fun k hk => (World.ownsRow.lt O5.out k hk).1)
      obtain ⟨fa, fc, hv6⟩ := O6.form
      generalize (U ++ [0]).length = f6 at hv6
      subst hv6
      clear own6 gr6 hn6 O6
      go_wp2_with (go_at_call 4; refine (HD3.out _ _ R6.out).mono ?_; rintro e w7 ⟨v7, x7, P7, rfl, ⟨a7, c7, rfl⟩, bel7⟩)
      go_ret
      exact ⟨rfl, Below.step (Below.step B2.out B6.out) bel7⟩

end packOnce
end Go.Proofs.Ytaalgilickkggab
