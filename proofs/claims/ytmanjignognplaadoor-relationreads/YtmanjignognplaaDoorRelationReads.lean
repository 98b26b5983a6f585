/-
  RelationReads.
  KEEP: walk lisF LsAns OwnR OwnRs len below nil form rd mono on app start at new trans refl kept own row out grown rdz set one more lt size cell some none letL tail next step go add put del get look no yes e c f b k n m box c0 c1 c2 newS rd22 at22 below22 RdR RdRs
-/
import Derived.Test.YtmanjignognplaaDoorRmA
import Derived.Test.YtmanjignognplaaDoorRmC
set_option linter.unusedSimpArgs false
set_option linter.unusedVariables false
namespace Go.Proofs.YtmanjignognplaaDoor
open Go Go.RowKit
namespace relationReads

set_option maxHeartbeats 3200000 in
set_option maxRecDepth 20000 in
theorem walk (s : ByteArray) (W : World) (hs : s.size ≤ 1048576) (hT : OpT W) :
    Calls Tryd.prog 4 #[.string s] W fun e W' => e = .returned (.bool true) ∧ Below W.heap.size W W' := by
  have HP : Hid (∀ V, OpT V → Calls Tryd.prog 10 #[.string s] V fun e w' => ∃ v L, e = .returned (.tuple #[v, .int .i64 (lsE (lstF s true)), .int .i64 (lsQ (lstF s true))]) ∧ OwnRs V.heap.size w' v L ∧ rgS L = lsL (lstF s true) ∧ RdRs w' v (lsL (lstF s true)) ∧ Below V.heap.size V w') := fun V h => (pRead22 s V h (by omega)).mono fun e w' q => ls_rd22 q (by omega)
  have HR : Hid (∀ V, Calls Tryd.prog 11 #[.string s] V fun e w' => ∃ v L, e = .returned (.tuple #[v, .int .i64 (lsE (lstF s true)), .int .i64 (lsQ (lstF s true))]) ∧ OwnRs V.heap.size w' v L ∧ rgS L = lsL (lstF s true) ∧ RdRs w' v (lsL (lstF s true)) ∧ Below V.heap.size V w') := fun V => (rRead22_any s V (by omega)).mono fun e w' q => ls_rd22 q (by omega)
  have hln : (lisF (lstF s false)).1.length ≤ s.size := lisF_len
  have LP : Hid (∀ V, OpT V → Calls Tryd.prog 13 #[.string s] V fun e w' => ∃ v, e = .returned (.tuple #[v, .int .i64 (lisF (lstF s false)).2.1, .int .i64 (lisF (lstF s false)).2.2]) ∧ RdR w' v (lisF (lstF s false)).1 ∧ Below V.heap.size V w') := fun V h => (pReadList22 s V h (by omega)).mono fun e w' ⟨v, q1, q2, q3⟩ => ⟨v, q1, q2.rd22 (by omega), q3⟩
  have LR : Hid (∀ V, Calls Tryd.prog 14 #[.string s] V fun e w' => ∃ v, e = .returned (.tuple #[v, .int .i64 (lisF (lstF s false)).2.1, .int .i64 (lisF (lstF s false)).2.2]) ∧ RdR w' v (lisF (lstF s false)).1 ∧ Below V.heap.size V w') := fun V => (rReadList22_any s V (by omega)).mono fun e w' ⟨v, q1, q2, q3⟩ => ⟨v, q1, q2.rd22 (by omega), q3⟩
  have HT : Hid (∀ V, Below W.heap.size W V → OpT V) := fun V h => hT.blw h
  clear hs hT hln
  generalize lsL (lstF s true) = M at *
  generalize lsE (lstF s true) = E at *
  generalize lsQ (lstF s true) = Q at *
  generalize (lisF (lstF s false)).1 = N at *
  generalize (lisF (lstF s false)).2.1 = E2 at *
  generalize (lisF (lstF s false)).2.2 = Q2 at *
  have e1 : (E != E) = false := by simp
  have e2 : (Q != Q) = false := by simp
  have e3 : (E2 == E2) = true := by simp
  have e4 : (Q2 == Q2) = true := by simp
  go_enter Tryd.func4, Tryd.ntmps4
  go_wp2_with fail
  refine (HP.out _ (HT.out _ (Below.refl _ _))).mono ?_
  rintro e w1 ⟨v, L, rfl, o1, l1, r1, b1⟩
  have HV : Hid (RdRs w1 v M) := r1
  have HB1 : Hid (Below W.heap.size W w1) := b1
  obtain ⟨va, vc, rfl, -, -, -⟩ := r1.at22
  clear o1 l1 r1 b1 HP
  generalize M.length = nm at *
  go_wp2_with fail
  refine (HR.out _).mono ?_
  rintro e w2 ⟨u, L2, rfl, o2, l2, r2, b2⟩
  have HV2 : Hid (RdRs w2 (.slice va nm vc) M) := HV.out.below22 b2
  have HU2 : Hid (RdRs w2 u M) := r2
  have HB2 : Hid (Below W.heap.size W w2) := HB1.out.trans (b2.mono HB1.out.size)
  obtain ⟨ua, uc, rfl, -, -, -⟩ := r2.at22
  clear o2 l2 r2 b2 HR HV HB1
  generalize M.length = nm2 at *
  have HAl : Hid (Calls Tryd.prog 12 #[.slice va nm vc, .slice ua nm2 uc] w2 fun e w' => e = .returned (.bool true) ∧ ∃ m, w' = w2.drewN m) := alike22 _ _ M w2 HV2.out HU2.out
  clear HV2 HU2
  go_wp2_with fail
  refine HAl.out.mono ?_
  rintro e w3 ⟨rfl, m, hw3⟩
  have HB3 : Hid (Below W.heap.size W w3) := by
    show Below _ _ _
    rw [hw3]
    exact HB2.out.trans ((blw_dn22 w2 m).mono HB2.out.size)
  clear HAl HB2 hw3
  go_wp2_with fail
  refine (LP.out _ (HT.out _ HB3.out)).mono ?_
  rintro e w4 ⟨v4, rfl, r4, b4⟩
  have HV4 : Hid (RdR w4 v4 N) := r4
  have HB4 : Hid (Below W.heap.size W w4) := HB3.out.trans (b4.mono HB3.out.size)
  obtain ⟨va4, vc4, rfl, -, -, -⟩ := r4.at22
  clear r4 b4 LP HB3
  generalize N.length = nn at *
  go_wp2_with fail
  refine (LR.out _).mono ?_
  rintro e w5 ⟨v5, rfl, r5, b5⟩
  have HV5 : Hid (RdR w5 (.slice va4 nn vc4) N) := HV4.out.below22 b5
  have HU5 : Hid (RdR w5 v5 N) := r5
  have HB5 : Hid (Below W.heap.size W w5) := HB4.out.trans (b5.mono HB4.out.size)
  obtain ⟨va5, vc5, rfl, -, -, -⟩ := r5.at22
  clear r5 b5 LR HB4 HV4
  generalize N.length = nn2 at *
  have HSm : Hid (Calls Tryd.prog 15 #[.slice va4 nn vc4, .slice va5 nn2 vc5] w5 fun e w' => e = .returned (.bool true) ∧ ∃ m, w' = w5.drewN m) := same22 _ _ N w5 HV5.out HU5.out
  clear HV5 HU5
  go_wp2_with fail
  refine HSm.out.mono ?_
  rintro e w6 ⟨rfl, m, hw6⟩
  have HB6 : Hid (Below W.heap.size W w6) := by
    show Below _ _ _
    rw [hw6]
    exact HB5.out.trans ((blw_dn22 w5 m).mono HB5.out.size)
  clear HSm HB5 hw6
  go_wp2
  go_ret
  exact ⟨rfl, HB6.out⟩
end relationReads
end Go.Proofs.YtmanjignognplaaDoor
