/-
  RelationWrites.
  KEEP: walk lisF LsAns OwnR OwnRs len below nil form rd mono on app start at new trans refl kept own row out grown rdz set one more lt size cell some none letL tail next step go add put del get look no yes e c f b k n m box c0 c1 c2 newS rd22 at22 below22 RdR RdRs
-/
import Derived.Test.YtmanjignognplaaDoorKRmF
import Derived.Test.YtmanjignognplaaDoorKRmG
set_option linter.unusedSimpArgs false
set_option linter.unusedVariables false
namespace Go.Proofs.YtmanjignognplaaDoor
open Go Go.RowKit
namespace relationWrites

/-- a text and an error -/
theorem wrA_form (R : Option ByteArray) : ∃ t er, wrA22 R = .tuple #[.string t, .int .i64 er] := by cases R <;> exact ⟨_, _, rfl⟩
set_option maxHeartbeats 3200000 in
set_option maxRecDepth 20000 in
theorem walk (v : Value) (l : List (List Rl)) (W : World) (hr : RdRs W v l) (hz : szL l ≤ 1099511627776) (hf : l.flatten.length * 40 ≤ 140737488355328) (hzf : szL (l.flatten.map fun r => [r]) ≤ 1099511627776) (hT : OpT W) :
    Calls Tryd.prog 5 #[v] W fun e W' => e = .returned (.bool true) ∧ Below W.heap.size W W' := by
  have hlen := hr.1
  have HR : Hid (RdRs W v l) := hr
  have HT : Hid (∀ V, Below W.heap.size W V → OpT V) := fun V h => hT.blw h
  have HCp : Hid (Calls Tryd.prog 17 #[v] W fun e w' => ∃ v' L, e = .returned v' ∧ OwnRs W.heap.size w' v' L ∧ rgS L = l ∧ Below W.heap.size W w') := copies22 v l W hr
  have HFl : Hid (∀ V, RdRs V v l → Calls Tryd.prog 20 #[v] V fun e w' => ∃ a c, e = .returned (.slice a l.flatten.length c) ∧ OwnR V.heap.size w' (.slice a l.flatten.length c) l.flatten ∧ Below V.heap.size V w') := fun V h => flat22 v l V h hf
  have HPw : Hid (∀ V u, OpT V → RdRs V u l → Calls Tryd.prog 16 #[u] V fun e w' => e = .returned (wrA22 (lisT 0 ⟨#[]⟩ l)) ∧ Below V.heap.size V w') := fun V u ht h => pWrite22 u l V h ht hz
  have HRw : Hid (∀ V, RdRs V v l → Calls Tryd.prog 18 #[v] V fun e w' => e = .returned (wrA22 (lisT 0 ⟨#[]⟩ l)) ∧ Below V.heap.size V w') := fun V h => rWrite22_any v l V h hz
  have hszf : szR l.flatten ≤ 1099511627776 := by
    have : ∀ rs : List Rl, szR rs ≤ szL (rs.map fun r => [r]) := fun rs => by
      induction rs with
      | nil => exact Nat.le_refl _
      | cons x q ih => simp only [szR, List.map_cons, szL]; omega
    exact Nat.le_trans (this _) hzf
  have HPl : Hid (∀ V u, OpT V → RdR V u l.flatten → Calls Tryd.prog 19 #[u] V fun e w' => e = .returned (wrA22 (lisT 0 ⟨#[]⟩ (l.flatten.map fun r => [r]))) ∧ Below V.heap.size V w') := fun V u ht h => pWriteList22 u _ V h ht hszf
  have HRl : Hid (∀ V u, RdR V u l.flatten → Calls Tryd.prog 21 #[u] V fun e w' => e = .returned (wrA22 (lisT 0 ⟨#[]⟩ (l.flatten.map fun r => [r]))) ∧ Below V.heap.size V w') := fun V u h => rWriteList22_any u _ V h hzf
  obtain ⟨T1, E1, hA1⟩ := wrA_form (lisT 0 ⟨#[]⟩ l)
  obtain ⟨T2, E2, hA2⟩ := wrA_form (lisT 0 ⟨#[]⟩ (l.flatten.map fun r => [r]))
  rw [hA1] at HPw HRw
  rw [hA2] at HPl HRl
  have hfl9 : l.flatten.length ≤ szR l.flatten := by
    generalize l.flatten = q
    induction q with
    | nil => exact Nat.le_refl _
    | cons x r ih => simp only [szR, List.length_cons]; omega
  have HRd : Hid (∀ B V u L, OwnRs B V u L → rgS L = l → RdRs V u l) := fun B V u L h e => by
    have h1 := h.len22 e
    rw [← e]
    refine h.rd22 (by omega) (fun x hx => ?_)
    have hx2 : x.2 ∈ l := by rw [← e]; exact List.mem_map.2 ⟨x, hx, rfl⟩
    have h2 : x.2.length ≤ l.flatten.length := (List.sublist_flatten_of_mem hx2).length_le
    omega
  have HRf : Hid (∀ B V u, OwnR B V u l.flatten → RdR V u l.flatten) := fun B V u h => h.rd22 (by omega)
  obtain ⟨va, vc, hv, -, -, -⟩ := hr.at22
  subst hv
  generalize l.length = ln at *
  generalize hfl : l.flatten = FL at *
  clear hA1 hA2 hz hf hzf hszf hT hr hfl hfl9
  have t1 : (T1.toList == T1.toList) = true := by simp
  have t2 : (T2.toList == T2.toList) = true := by simp
  have e1 : (E1 == E1) = true := by simp
  have e2 : (E2 == E2) = true := by simp
  go_enter Tryd.func5, Tryd.ntmps5
  go_wp2_with fail
  refine HCp.out.mono ?_
  rintro e w1 ⟨v1, L1, rfl, o1, l1, b1⟩
  have HB1 : Hid (Below W.heap.size W w1) := b1
  have HR1 : Hid (RdRs w1 v1 l) := HRd.out _ _ _ _ o1 l1
  obtain ⟨a1, c1, rfl, -, -, -⟩ := HR1.out.at22
  clear o1 l1 b1 HCp
  generalize l.length = n1 at *
  go_wp2_with fail
  refine (HPw.out _ _ (HT.out _ HB1.out) HR1.out).mono ?_
  rintro e w2 ⟨rfl, b2⟩
  have HB2 : Hid (Below W.heap.size W w2) := HB1.out.trans (b2.mono HB1.out.size)
  clear b2 HB1 HR1 HPw
  go_wp2_with fail
  refine (HRw.out _ (HR.out.below22 HB2.out)).mono ?_
  rintro e w3 ⟨rfl, b3⟩
  have HB3 : Hid (Below W.heap.size W w3) := HB2.out.trans (b3.mono HB2.out.size)
  clear b3 HB2 HRw
  go_wp2_with fail
  refine (HFl.out _ (HR.out.below22 HB3.out)).mono ?_
  rintro e w4 ⟨a4, c4, rfl, o4, b4⟩
  have HB4 : Hid (Below W.heap.size W w4) := HB3.out.trans (b4.mono HB3.out.size)
  have HR4 : Hid (RdR w4 (.slice a4 FL.length c4) FL) := HRf.out _ _ _ o4
  clear o4 b4 HB3
  go_wp2_with fail
  refine (HPl.out _ _ (HT.out _ HB4.out) HR4.out).mono ?_
  rintro e w5 ⟨rfl, b5⟩
  have HB5 : Hid (Below W.heap.size W w5) := HB4.out.trans (b5.mono HB4.out.size)
  clear b5 HB4 HR4 HPl
  go_wp2_with fail
  refine (HFl.out _ (HR.out.below22 HB5.out)).mono ?_
  rintro e w6 ⟨a6, c6, rfl, o6, b6⟩
  have HB6 : Hid (Below W.heap.size W w6) := HB5.out.trans (b6.mono HB5.out.size)
  have HR6 : Hid (RdR w6 (.slice a6 FL.length c6) FL) := HRf.out _ _ _ o6
  clear o6 b6 HB5 HFl
  go_wp2_with fail
  refine (HRl.out _ _ HR6.out).mono ?_
  rintro e w7 ⟨rfl, b7⟩
  have HB7 : Hid (Below W.heap.size W w7) := HB6.out.trans (b7.mono HB6.out.size)
  clear b7 HB6 HR6 HRl
  go_wp2
  go_ret
  exact ⟨rfl, HB7.out⟩
end relationWrites
end Go.Proofs.YtmanjignognplaaDoor
