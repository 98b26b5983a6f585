/-
  RelationLists (walks/genlists22.py writes it).
  KEEP: walk lisF LsAns OwnR OwnRs off c0 c1 c2 c3 c4 s0 s1 s2 s3 s4 newS rds lt f t q x len below nil form rd mono on app start at new trans refl kept own row out grown rdz set one more size cell some none letL tail next step go add put del get look no yes e c b k n m box rd22 at22 below22 RdR RdRs
-/
import Derived.Test.YtmfcaoacklbkoaaDoorRmA
import Derived.Test.YtmfcaoacklbkoaaDoorRmG
import Derived.Test.YtmfcaoacklbkoaaDoorRnS
import Derived.Test.YtmfcaoacklbkoaaDoorRnT
set_option linter.unusedSimpArgs false
set_option linter.unusedVariables false
namespace Go.Proofs.YtmfcaoacklbkoaaDoor
open Go Go.RowKit
namespace relationLists

def onesB (l : List (List Rl)) : Bool := l.all fun x => decide (x.length = 1)
theorem ones_take {l : List (List Rl)} {k : Nat} (h : k < l.length) : onesB (l.take (k + 1)) = (onesB (l.take k) && decide ((l.getD k []).length = 1)) := by
  unfold onesB
  rw [List.take_add_one, List.all_append, List.getElem?_eq_getElem h, List.getD_eq_getElem?_getD, List.getElem?_eq_getElem h]
  simp
theorem lstF_bad {s : ByteArray} {bars : Bool} {p : Int × Int} (h : lstF s bars = .error p) : p.1 ≠ 0 ∧ 0 ≤ p.2 ∧ p.2 ≤ s.size := by
  unfold lstF at h
  split at h
  · cases h
  · have := lst_bad _ _ _ _ _ (runF_le22 gapZ s (Nat.zero_le _)) h
    exact ⟨this.1, by omega, this.2.2⟩
set_option maxHeartbeats 6400000 in
set_option maxRecDepth 100000 in
theorem walk (s : ByteArray) (W : World) (hs : s.size ≤ 1048576) (hT : OpT W) : Calls Tryd.prog 6 #[.string s] W fun e W' => e = .returned (.bool true) ∧ Below W.heap.size W W' := by
  have HT : Hid (∀ V, Below W.heap.size W V → OpT V) := fun V h => hT.blw h
  have HP0 := fun V (h : OpT V) => (pRead22 s V h (by omega)).mono fun e w' q => ls_rd22 q (by omega)
  have hln : (lisF (lstF s false)).1.length ≤ s.size := lisF_len
  have HL0 := fun V (h : OpT V) => (pReadList22 s V h (by omega)).mono fun e w' (q : ∃ v, e = .returned (.tuple #[v, .int .i64 (lisF (lstF s false)).2.1, .int .i64 (lisF (lstF s false)).2.2]) ∧ OwnR V.heap.size w' v (lisF (lstF s false)).1 ∧ Below V.heap.size V w') => (show ∃ v, e = .returned (.tuple #[v, .int .i64 (lisF (lstF s false)).2.1, .int .i64 (lisF (lstF s false)).2.2]) ∧ RdR w' v (lisF (lstF s false)).1 ∧ Below V.heap.size V w' from by
    obtain ⟨v, q1, q2, q3⟩ := q
    exact ⟨v, q1, q2.rd22 (by omega), q3⟩)
  have HA : Hid (∀ V, OpT V → Calls Tryd.prog 9 #[.string ⟨#[97, 97]⟩] V fun e w' => ∃ a c, e = .returned (.tuple #[.slice a 1 c, .int .i64 0, .int .i64 0]) ∧ Below V.heap.size V w') := fun V h => by
    have := pReadList22 ⟨#[97, 97]⟩ V h (by decide)
    rw [num_e] at this
    refine this.mono ?_
    rintro e w' ⟨v, q1, q2, q3⟩
    obtain ⟨a, c, rfl⟩ := row_form22 q2
    exact ⟨a, c, q1, q3⟩
  obtain ⟨hb1, hb2⟩ := lstF_both s
  have hsz : (s.size : Int) ≤ 1048576 := by omega
  cases hR : lstF s true with
  | error p =>
    obtain ⟨p', e1, e2, e3⟩ := hb1 p hR
    have hp := lstF_bad hR
    rw [hR] at HP0
    rw [e1] at HL0
    have HP : Hid (∀ V, OpT V → Calls Tryd.prog 8 #[.string s] V fun e w' => ∃ v, e = .returned (.tuple #[v, .int .i64 p.1, .int .i64 p.2]) ∧ Below V.heap.size V w') := fun V h => (HP0 V h).mono fun e w' ⟨v, L, q1, _, _, _, q5⟩ => ⟨v, q1, q5⟩
    have HL : Hid (∀ V, OpT V → Calls Tryd.prog 9 #[.string s] V fun e w' => ∃ a c, e = .returned (.tuple #[.slice a 0 c, .int .i64 p'.1, .int .i64 p'.2]) ∧ Below V.heap.size V w') := fun V h => (HL0 V h).mono fun e w' ⟨v, q1, q2, q3⟩ => by
      obtain ⟨a, c, rfl, -, -, -⟩ := q2.at22
      exact ⟨a, c, q1, q3⟩
    have d1 : (p.1 != 0) = true := by simpa using hp.1
    have d2 : (p'.1 != 0) = true := by simpa using e2
    have d3 : decide (p'.2 ≤ p.2) = true := by simpa using e3
    clear HP0 HL0 hb1 hb2 hR e1 e2 hln hs hT hp HA e3 hsz
    generalize p.1 = E at *
    generalize p.2 = Q at *
    generalize p'.1 = E2 at *
    generalize p'.2 = Q2 at *
    go_enter Tryd.func6, Tryd.ntmps6
    go_wp2_with fail
    refine (HP.out _ (HT.out _ (Below.refl _ _))).mono ?_
    rintro e w1 ⟨v1, rfl, b1⟩
    have HB1 : Hid (Below W.heap.size W w1) := b1
    clear b1 HP
    go_wp2_with fail
    refine (HL.out _ (HT.out _ HB1.out)).mono ?_
    rintro e w2 ⟨a2, c2, rfl, b2⟩
    have HB2 : Hid (Below W.heap.size W w2) := HB1.out.trans (b2.mono HB1.out.size)
    clear b2 HL HB1
    go_wp2
    go_ret
    exact ⟨rfl, HB2.out⟩
  | ok l =>
    have hll := lstF_len hR
    rw [hR] at HP0
    have HP : Hid (∀ V, OpT V → Calls Tryd.prog 8 #[.string s] V fun e w' => ∃ v, e = .returned (.tuple #[v, .int .i64 0, .int .i64 0]) ∧ RdRs w' v l ∧ Below V.heap.size V w') := fun V h => (HP0 V h).mono fun e w' ⟨v, L, q1, _, _, q4, q5⟩ => ⟨v, q1, q4, q5⟩
    have HOt : Hid (∀ k, k < l.length → onesB (l.take (k + 1)) = (onesB (l.take k) && decide ((l.getD k []).length = 1))) := fun k h => ones_take h
    have HOe : Hid (onesB (l.take l.length) = onesB l) := by show _ = _; rw [List.take_length]
    rcases hb2 l hR with ⟨e1, e2⟩ | ⟨q, e1, e2, e3, x, e4, e5⟩
    · have hone : onesB l = true := List.all_eq_true.2 fun x hx => decide_eq_true (e2 x hx)
      have hfl : l.map (fun x => x.headD noRl) = l.flatten := flat_ones e2
      have hf9 : l.flatten.length * 40 ≤ 140737488355328 := by rw [← hfl, List.length_map]; omega
      rw [e1] at HL0
      have HL : Hid (∀ V, OpT V → Calls Tryd.prog 9 #[.string s] V fun e w' => ∃ v, e = .returned (.tuple #[v, .int .i64 0, .int .i64 0]) ∧ RdR w' v l.flatten ∧ Below V.heap.size V w') := fun V h => by
        have := HL0 V h
        simp only [lisF, hfl] at this
        exact this
      have HFl : Hid (∀ V v, RdRs V v l → Calls Tryd.prog 14 #[v] V fun e w' => ∃ a c, e = .returned (.slice a l.flatten.length c) ∧ OwnR V.heap.size w' (.slice a l.flatten.length c) l.flatten ∧ Below V.heap.size V w') := fun V v h => flat22 v l V h hf9
      have HRf : Hid (∀ B V u, OwnR B V u l.flatten → RdR V u l.flatten) := fun B V u h => h.rd22 (by rw [← hfl, List.length_map]; omega)
      clear HP0 HL0 hb1 hb2 hR e1 e2 hln hs hT hfl hf9 hll hsz
      go_enter Tryd.func6, Tryd.ntmps6
      go_wp2_with fail
      refine (HP.out _ (HT.out _ (Below.refl _ _))).mono ?_
      rintro e w1 ⟨v1, rfl, r1, b1⟩
      have HBW : Hid (∀ V, Below w1.heap.size w1 V → Below W.heap.size W V) := fun V h => b1.trans (h.mono b1.size)
      have HRv0 : Hid (∀ V, Below w1.heap.size w1 V → RdRs V v1 l) := fun V h => r1.below22 h
      have hlen := r1.1
      obtain ⟨va, vc, rfl, hvc, hvm, -⟩ := r1.at22
      have HRc : Hid (∀ V, Below w1.heap.size w1 V → ∀ k, k < l.length → ∃ b off u, va = some ⟨b, off, none⟩ ∧ V.cell? ⟨b, off + k, none⟩ = some u ∧ RdR V u (l.getD k [])) := fun V hb k hk => by
        obtain ⟨a', c', e', -, -, hcl⟩ := (r1.below22 hb).at22
        have e3 : a' = va := by injection e' with q1 q2 q3; exact q1.symm
        subst e3
        exact hcl k hk
      obtain ⟨nl, hnl⟩ : ∃ nl, nl = l.length := ⟨_, rfl⟩
      rw [← hnl] at HRv0 HRc hlen hvc HOt HOe ⊢
      have HRv : Hid (∀ V, Below w1.heap.size w1 V → RdRs V (.slice va nl vc) l) := HRv0.out
      clear r1 b1 HP hnl HRv0
      go_wp2_with fail
      refine (HL.out _ (HT.out _ (HBW.out _ (Below.refl _ _)))).mono ?_
      rintro e w2 ⟨k2, rfl, r2, b2⟩
      have HB2 : Hid (Below w1.heap.size w1 w2) := b2
      have HK0 : Hid (∀ V, Below w1.heap.size w1 V → Below w2.heap.size w2 V → RdR V k2 l.flatten) := fun V _ h => r2.below22 h
      obtain ⟨ka, kc, rfl, -, -, -⟩ := r2.at22
      obtain ⟨nk, hnk⟩ : ∃ nk, nk = l.flatten.length := ⟨_, rfl⟩
      rw [← hnk] at HK0 ⊢
      clear r2 b2 HL hnk
      go_wp2_with fail
      go_loopg [9, 10] nl (fun g x9 i wr => ∃ (k : Nat) (P : Bool), k + g = nl ∧ i = .int .i64 k ∧ x9 = .bool P ∧ Hid (P = onesB (l.take k)) ∧ wr = w2)
      case atStart => exact ⟨0, true, by omega, rfl, rfl, rfl, rfl⟩
      case round =>
        obtain ⟨k, P, hk, rfl, rfl, HPk, hwr⟩ := hrel
        subst hwr
        have HG : Hid (k + gk = nl) := hk
        by_cases hlt : k < nl
        · obtain ⟨b, off, u, rfl, hcu, hru⟩ := HRc.out _ HB2.out k hlt
          have HPn : Hid (onesB (l.take (k + 1)) = (P && decide ((l.getD k []).length = 1))) := by show _ = _; rw [HOt.out k hlt, HPk.out]
          obtain ⟨ua, uc, rfl, -, -, -⟩ := hru.at22
          clear hru HPk hk
          generalize (l.getD k []).length = nr at *
          cases P
          · have HE : Hid (false = onesB (l.take (k + 1))) := by show _ = _; rw [HPn.out, Bool.false_and]
            clear HPn
            go_wp2
            go_roundg (gk - 1)
            case measure => have := HG.out; omega
            case rel => exact ⟨k + 1, false, by have := HG.out; omega, by first | rfl | go_num, rfl, HE.out, rfl⟩
          · have HE : Hid (decide (nr = 1) = onesB (l.take (k + 1))) := by show _ = _; rw [HPn.out, Bool.true_and]
            have hnr : ((nr : Int) == 1) = decide (nr = 1) := by
              by_cases h : nr = 1
              · rw [h]; rfl
              · rw [decide_eq_false h]; exact beq_eq_false_iff_ne.2 (by omega)
            clear HPn
            generalize decide (nr = 1) = B at *
            go_wp2
            go_roundg (gk - 1)
            case measure => have := HG.out; omega
            case rel => exact ⟨k + 1, B, by have := HG.out; omega, by first | rfl | go_num, rfl, HE.out, rfl⟩
        · skip
          have hP2 : P = onesB l := by
            have e : k = nl := by omega
            rw [HPk.out, e, HOe.out]
          clear HPk hk HOt HOe HRc
          have HK : Hid (∀ V, Below wr.heap.size wr V → Below w1.heap.size w1 V → RdR V (.slice ka nk kc) l.flatten) := fun V h1 h2 => HK0.out V h2 h1
          rw [hone] at hP2
          go_wp2_with fail
          refine (HA.out _ (HT.out _ (HBW.out _ HB2.out))).mono ?_
          rintro e w4 ⟨a4, c4, rfl, b4⟩
          have HB4 : Hid (Below w1.heap.size w1 w4) := HB2.out.trans (b4.mono HB2.out.size)
          have HB4w : Hid (Below wr.heap.size wr w4) := b4
          clear b4 HA
          subst hP2
          have HFc : Hid (Calls Tryd.prog 14 #[.slice va nl vc] w4 fun e w' => ∃ a c, e = .returned (.slice a l.flatten.length c) ∧ OwnR w4.heap.size w' (.slice a l.flatten.length c) l.flatten ∧ Below w4.heap.size w4 w') := HFl.out _ _ (HRv.out _ HB4.out)
          generalize hfl : l.flatten = FL at *
          clear hfl HFl
          go_wp2_with fail
          refine HFc.out.mono ?_
          rintro e w5 ⟨a5, c5, rfl, o5, b5⟩
          have HB5 : Hid (Below w1.heap.size w1 w5) := HB4.out.trans (b5.mono HB4.out.size)
          have HR5 : Hid (RdR w5 (.slice a5 FL.length c5) FL) := HRf.out _ _ _ o5
          have HK5 : Hid (RdR w5 (.slice ka nk kc) FL) := HK.out w5 (HB4w.out.trans (b5.mono HB4w.out.size)) HB5.out
          clear o5 b5 HB4 HB4w HFc
          have HSm : Hid (Calls Tryd.prog 15 #[.slice ka nk kc, .slice a5 FL.length c5] w5 fun e w' => e = .returned (.bool true) ∧ ∃ m, w' = w5.drewN m) := same22 _ _ FL w5 HK5.out HR5.out
          clear HR5 HK5
          generalize FL.length = m7 at *
          go_wp2_with fail
          refine HSm.out.mono ?_
          rintro e w8 ⟨rfl, m, hw8⟩
          have HB8 : Hid (Below W.heap.size W w8) := by
            show Below _ _ _
            rw [hw8]
            exact HBW.out _ (HB5.out.trans ((blw_dn22 w5 m).mono HB5.out.size))
          clear HSm HB5 hw8
          go_wp2
          go_ret
          exact ⟨rfl, HB8.out⟩
    · have hone : onesB l = false := by
        cases h : onesB l
        · rfl
        · exact absurd (of_decide_eq_true (List.all_eq_true.1 h x e4)) e5
      rw [e1] at HL0
      have HL : Hid (∀ V, OpT V → Calls Tryd.prog 9 #[.string s] V fun e w' => ∃ v, e = .returned (.tuple #[v, .int .i64 220, .int .i64 q]) ∧ RdR w' v [] ∧ Below V.heap.size V w') := fun V h => HL0 V h
      have hzz : (((s[q]'e2).toNat : Nat) : Int) = 124 := by rw [← atB_in e2]; exact e3
      have g1 : decide ((q : Int) ≥ 0) = true := by simp
      have g2 : decide ((q : Int) < (s.size : Int)) = true := by simp; omega
      clear HP0 HL0 hb1 hb2 hR e1 e3 hln hs hT hll hsz e4 e5
      go_enter Tryd.func6, Tryd.ntmps6
      go_wp2_with fail
      refine (HP.out _ (HT.out _ (Below.refl _ _))).mono ?_
      rintro e w1 ⟨v1, rfl, r1, b1⟩
      have HBW : Hid (∀ V, Below w1.heap.size w1 V → Below W.heap.size W V) := fun V h => b1.trans (h.mono b1.size)
      have HRv0 : Hid (∀ V, Below w1.heap.size w1 V → RdRs V v1 l) := fun V h => r1.below22 h
      have hlen := r1.1
      obtain ⟨va, vc, rfl, hvc, hvm, -⟩ := r1.at22
      have HRc : Hid (∀ V, Below w1.heap.size w1 V → ∀ k, k < l.length → ∃ b off u, va = some ⟨b, off, none⟩ ∧ V.cell? ⟨b, off + k, none⟩ = some u ∧ RdR V u (l.getD k [])) := fun V hb k hk => by
        obtain ⟨a', c', e', -, -, hcl⟩ := (r1.below22 hb).at22
        have e3 : a' = va := by injection e' with q1 q2 q3; exact q1.symm
        subst e3
        exact hcl k hk
      obtain ⟨nl, hnl⟩ : ∃ nl, nl = l.length := ⟨_, rfl⟩
      rw [← hnl] at HRv0 HRc hlen hvc HOt HOe ⊢
      have HRv : Hid (∀ V, Below w1.heap.size w1 V → RdRs V (.slice va nl vc) l) := HRv0.out
      clear r1 b1 HP hnl HRv0
      go_wp2_with fail
      refine (HL.out _ (HT.out _ (HBW.out _ (Below.refl _ _)))).mono ?_
      rintro e w2 ⟨k2, rfl, r2, b2⟩
      have HB2 : Hid (Below w1.heap.size w1 w2) := b2
      have HK0 : Hid (∀ V, Below w1.heap.size w1 V → Below w2.heap.size w2 V → RdR V k2 ([] : List Rl)) := fun V _ h => r2.below22 h
      obtain ⟨ka, kc, rfl, -, -, -⟩ := r2.at22
      obtain ⟨nk, hnk⟩ : ∃ nk, nk = ([] : List Rl).length := ⟨_, rfl⟩
      rw [← hnk] at HK0 ⊢
      clear r2 b2 HL hnk
      go_wp2_with fail
      go_loopg [9, 10] nl (fun g x9 i wr => ∃ (k : Nat) (P : Bool), k + g = nl ∧ i = .int .i64 k ∧ x9 = .bool P ∧ Hid (P = onesB (l.take k)) ∧ wr = w2)
      case atStart => exact ⟨0, true, by omega, rfl, rfl, rfl, rfl⟩
      case round =>
        obtain ⟨k, P, hk, rfl, rfl, HPk, hwr⟩ := hrel
        subst hwr
        have HG : Hid (k + gk = nl) := hk
        by_cases hlt : k < nl
        · obtain ⟨b, off, u, rfl, hcu, hru⟩ := HRc.out _ HB2.out k hlt
          have HPn : Hid (onesB (l.take (k + 1)) = (P && decide ((l.getD k []).length = 1))) := by show _ = _; rw [HOt.out k hlt, HPk.out]
          obtain ⟨ua, uc, rfl, -, -, -⟩ := hru.at22
          clear hru HPk hk
          generalize (l.getD k []).length = nr at *
          cases P
          · have HE : Hid (false = onesB (l.take (k + 1))) := by show _ = _; rw [HPn.out, Bool.false_and]
            clear HPn
            go_wp2
            go_roundg (gk - 1)
            case measure => have := HG.out; omega
            case rel => exact ⟨k + 1, false, by have := HG.out; omega, by first | rfl | go_num, rfl, HE.out, rfl⟩
          · have HE : Hid (decide (nr = 1) = onesB (l.take (k + 1))) := by show _ = _; rw [HPn.out, Bool.true_and]
            have hnr : ((nr : Int) == 1) = decide (nr = 1) := by
              by_cases h : nr = 1
              · rw [h]; rfl
              · rw [decide_eq_false h]; exact beq_eq_false_iff_ne.2 (by omega)
            clear HPn
            generalize decide (nr = 1) = B at *
            go_wp2
            go_roundg (gk - 1)
            case measure => have := HG.out; omega
            case rel => exact ⟨k + 1, B, by have := HG.out; omega, by first | rfl | go_num, rfl, HE.out, rfl⟩
        · skip
          have hP2 : P = onesB l := by
            have e : k = nl := by omega
            rw [HPk.out, e, HOe.out]
          clear HPk hk HOt HOe HRc
          have HK : Hid (∀ V, Below wr.heap.size wr V → Below w1.heap.size w1 V → RdR V (.slice ka nk kc) ([] : List Rl)) := fun V h1 h2 => HK0.out V h2 h1
          rw [hone] at hP2
          go_wp2_with fail
          refine (HA.out _ (HT.out _ (HBW.out _ HB2.out))).mono ?_
          rintro e w4 ⟨a4, c4, rfl, b4⟩
          have HB4 : Hid (Below w1.heap.size w1 w4) := HB2.out.trans (b4.mono HB2.out.size)
          have HB4w : Hid (Below wr.heap.size wr w4) := b4
          clear b4 HA
          subst hP2
          have HBf : Hid (Below W.heap.size W w4) := HBW.out _ HB4.out
          clear HB4
          go_wp2
          go_ret
          exact ⟨rfl, HBf.out⟩
end relationLists
end Go.Proofs.YtmfcaoacklbkoaaDoor
