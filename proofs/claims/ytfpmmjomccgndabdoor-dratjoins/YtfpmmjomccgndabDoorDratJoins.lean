/-
  DratJoins, walked.
  KEEP: below rdz form out len row own mono lt
-/
import Derived.Test.YtfpmmjomccgndabDoorDrWr
import Derived.Test.YtfpmmjomccgndabDoorDrC
import Derived.Test.YtfpmmjomccgndabDoorDrSd
import Derived.Test.YtfpmmjomccgndabDoorDrRe
import Derived.Test.YtfpmmjomccgndabDoorOpenZ
set_option linter.unusedSimpArgs false
set_option linter.unusedVariables false
namespace Go.Proofs.YtfpmmjomccgndabDoor
theorem wz9j {l : List Stp} (h : stpN l ≤ 1048576) : wz l ≤ 274877906944 := by unfold stpN at h; unfold wz; omega
theorem drW_size9 {l : List Stp} (h : stpN l ≤ 1048576) (hs : sndS l = true) : (drW l).length ≤ 274877906944 := by
  have := drW_len l hs; have := wz9j h; unfold wz at this; omega
theorem wz_app (a b : List Stp) : wz (a ++ b) = wz a + wz b := by simp only [wz, List.map_append, List.sum_append, List.length_append]; omega
theorem snd_app (a b : List Stp) : sndS (a ++ b) = (sndS a && sndS b) := by simp [sndS]
open Go Go.RowKit
/-- a row of steps whose lists are read -/
theorem rdz_of_row {B : Nat} {W : World} {s : Value} {L : List SV} (row : W.ownsRow B 34 2 s L.length (svC L)) (own : ∀ x ∈ L, Own 0 W x.2.1 x.2.2) (h32 : L.length * 32 ≤ 140737488351232) (h8 : ∀ x ∈ L, x.2.2.length * 8 ≤ 140737488351232) : RdZ W s (svS L) := by
  rcases row.2 with ⟨rfl, hn⟩ | ⟨g, cap, cur, hv, hg, hh, hn, hm, hs, ht⟩
  · have : L = [] := List.length_eq_zero_iff.1 hn
    subst this; exact RdZ.nil W
  · subst hv
    refine ⟨by rw [svS_len]; exact h32, _, cap, by rw [svS_len], by rw [svS_len]; exact hn, hm, fun _ => ⟨g, 0, rfl, (Array.getElem?_eq_some_iff.1 hh).1, fun j hj => ?_⟩⟩
    have hj' : j < L.length := by rw [svS_len] at hj; exact hj
    obtain ⟨e1, e2⟩ := svC_at L j hj'
    have e : (svS L).getD j (false, []) = (L[j].1, L[j].2.2) := by simp [svS, List.getD_eq_getElem?_getD, hj']
    rw [e]
    refine ⟨L[j].2.1, ?_, ?_, (own _ (List.getElem_mem hj')).rd (h8 _ (List.getElem_mem hj'))⟩
    · rw [Nat.zero_add, World.ownsRow.cellAt row _ (by omega), e1]
    · rw [Nat.zero_add, World.ownsRow.cellAt row _ (by omega), e2]
theorem svC_one (L : List SV) (h : ∀ x ∈ L, x.2.1.oneCell' = true) : ∀ u ∈ svC L, u.oneCell' = true := fun u hu => by
  obtain ⟨x, hx, hm⟩ := List.mem_flatMap.1 hu
  rcases List.mem_cons.1 hm with rfl | hm
  · rfl
  · obtain rfl : u = x.2.1 := by simpa using hm
    exact h x hx
theorem own_oneCell {B : Nat} {W : World} {v : Value} {zs : List Int} (h : Own B W v zs) : v.oneCell' = true := by
  obtain ⟨a, c, rfl⟩ := own_form h; rfl
/-- append of one row of steps onto another -/
theorem append_steps {Ba Bb : Nat} {W : World} {u v : Value} {La Lb : List SV} (ty : TypeId) (ha : OwnZ Ba W u La) (hb : OwnZ Bb W v Lb) (hBa : Ba ≤ W.heap.size) (hl : (La.length + Lb.length) * 32 ≤ 140737488351232) (h8a : ∀ x ∈ La, x.2.2.length * 8 ≤ 140737488351232) (h8b : ∀ x ∈ Lb, x.2.2.length * 8 ≤ 140737488351232) :
    ∃ r W', (Builtin.append_ #[22, 22] ty #[u, v]).run Tryd.prog W = .ok r W' ∧ RdZ W' r (svS La ++ svS Lb) ∧ W.grownBy W' u.ownBlock := by
  obtain ⟨il, hil, hzl0, hzl1, hzl2⟩ := info_parts infoZ
  have done : ∀ r W', W'.ownsRow Ba 34 2 r (La.length + Lb.length) (svC La ++ svC Lb) → W.grownBy W' u.ownBlock → RdZ W' r (svS La ++ svS Lb) := fun r W' own gr => by
    have e1 : svC (La ++ Lb) = svC La ++ svC Lb := by simp [svC]
    have e2 : svS (La ++ Lb) = svS La ++ svS Lb := by simp [svS]
    rw [← e2]
    refine rdz_of_row (B := Ba) (by rw [e1, List.length_append]; exact own) (fun x hx => ?_) (by rw [List.length_append]; omega) (fun x hx => ?_)
    · have o0 : Own 0 W x.2.1 x.2.2 := by
        rcases List.mem_append.1 hx with h | h
        · exact (ha.own x h).mono (Nat.zero_le _)
        · exact (hb.own x h).mono (Nat.zero_le _)
      exact row_apart (by decide) o0 ha.row gr
    · rcases List.mem_append.1 hx with h | h
      · exact h8a x h
      · exact h8b x h
  rcases hb.row.2 with ⟨rfl, hn⟩ | ⟨g, cap, cur, rfl, hg, hh, hnc, hm, hs, ht⟩
  · have hL : Lb = [] := List.length_eq_zero_iff.1 hn
    subst hL
    have hrun := run_append_owned_none (P := Tryd.prog) W Ba 22 ty 34 il 2 Tryd.underlying22 hil u La.length (svC La) ha.row
    refine ⟨u, W, hrun, done u W (by simpa [svC] using ha.row) ⟨rfl, rfl, rfl, Nat.le_refl _, fun _ _ _ => rfl⟩, ⟨rfl, rfl, rfl, Nat.le_refl _, fun _ _ _ => rfl⟩⟩
  · obtain ⟨r, W', hrun, r1, r2, _⟩ := run_append_own (P := Tryd.prog) W Ba 22 ty 34 il (.agg #[.bool false, .slice none 0 0]) 2 32 Tryd.underlying22 hil hzl0 hzl1 hzl2 rfl (by decide) u La.length (svC La) ha.row ⟨g, 0, none⟩ Lb.length cap (svC Lb) (svC_len Lb) (hb.row.cells (g := g) rfl) (svC_one Lb fun x hx => own_oneCell (hb.own x hx)) (by unfold maxLen; omega) (by omega) hBa
    exact ⟨r, W', hrun, done r W' r1 r2, r2⟩
theorem wpList_append_run9 {w w' : World} {ops : Array Oper} {rest : List Oper} {o : Oper} {a : Act} {Q : Exit → Act → World → Prop} (hgd : o.guard = none) (s x : Operand) (t : TypeId)
    (hop : o.op = .call { callee := .builtin .append, args := #[s, x], argTypes := #[t, t] }) (v u r : Value) (hs : a.eval s = v) (hx : a.eval x = u)
    (hrun : (Builtin.append_ #[t, t] o.type #[v, u]).run Tryd.prog w = .ok r w') (h : wpList Tryd.prog ops Q rest (a.put o.dst r) w') : wpList Tryd.prog ops Q (o :: rest) a w := by
  refine wpList_plain hgd fun K hK => ?_
  unfold Oper.wp execOp
  simp only [hop, resolve, invoke, builtin, Sem.run_bind, Sem.run_pure, Result.andThen_ok, List.map_toArray, List.map_cons, List.map_nil, hs, hx, hrun]
  exact hK _ _ h
namespace dratJoins
open Go Go.RowKit Go.Lib Go.Sort

set_option maxHeartbeats 3200000 in
set_option maxRecDepth 100000 in
theorem walk (sa : Value) (a : List Stp) (sb : Value) (b : List Stp) (w : World) (hra : RdZ w sa a) (hrb : RdZ w sb b) (hba : stpN a ≤ 1048576) (hbb : stpN b ≤ 1048576) (he : Env w) :
    Calls Tryd.prog 3 #[sa, sb] w fun e w' => e = .returned (.bool true) ∧ RowKit.Below w.heap.size w w' := by
  have hla := hra.len
  have hlb := hrb.len
  have HA : Hid (RdZ w sa a) := hra
  have HB : Hid (RdZ w sb b) := hrb
  have H8a : Hid (∀ x ∈ a, x.2.length * 8 ≤ 140737488351232) := rdz_each hra
  have H8b : Hid (∀ x ∈ b, x.2.length * 8 ≤ 140737488351232) := rdz_each hrb
  have HE0 : Hid (Env w) := he
  obtain ⟨aa, ca, rfl, hca, hma, _⟩ := hra.form
  obtain ⟨ab, cb, rfl, hcb, hmb, _⟩ := hrb.form
  have hna : a.length ≤ 1048576 := by unfold stpN at hba; omega
  have hnb : b.length ≤ 1048576 := by unfold stpN at hbb; omega
  cases hsa : sndS a
  · have HS : Hid (Calls Tryd.prog 6 #[.slice aa a.length ca] w fun e w' => e = .returned (.bool false) ∧ w' = w) := by have := sound9_any _ a w HA.out; rwa [hsa] at this
    clear hra hrb he
    go_enter Tryd.func3, Tryd.ntmps3
    go_wp2_with (go_at_call 6; refine HS.out.mono ?_; rintro e w1 ⟨rfl, hw1⟩; obtain rfl := hw1.symm)
    go_ret
    exact ⟨rfl, Below.refl _ _⟩
  cases hsb : sndS b
  · have HS : Hid (Calls Tryd.prog 6 #[.slice aa a.length ca] w fun e w' => e = .returned (.bool true) ∧ w' = w) := by have := sound9_any _ a w HA.out; rwa [hsa] at this
    have HS2 : Hid (Calls Tryd.prog 6 #[.slice ab b.length cb] w fun e w' => e = .returned (.bool false) ∧ w' = w) := by have := sound9_any _ b w HB.out; rwa [hsb] at this
    clear hra hrb he
    go_enter Tryd.func3, Tryd.ntmps3
    go_wp2_with fail
    refine HS.out.mono ?_
    rintro e w1 ⟨rfl, hw1⟩
    obtain rfl := hw1.symm
    go_wp2_with fail
    refine HS2.out.mono ?_
    rintro e w2 ⟨rfl, hw2⟩
    obtain rfl := hw2.symm
    go_wp2
    go_ret
    exact ⟨rfl, Below.refl _ _⟩
  have HS : Hid (Calls Tryd.prog 6 #[.slice aa a.length ca] w fun e w' => e = .returned (.bool true) ∧ w' = w) := by have := sound9_any _ a w HA.out; rwa [hsa] at this
  have HS2 : Hid (Calls Tryd.prog 6 #[.slice ab b.length cb] w fun e w' => e = .returned (.bool true) ∧ w' = w) := by have := sound9_any _ b w HB.out; rwa [hsb] at this
  have hsab : sndS (a ++ b) = true := by rw [snd_app, hsa, hsb]; rfl
  have wr : ∀ l : List Stp, sndS l = true → wz l ≤ 1099511627776 → ∀ W u, RdZ W u l → TensY W → Calls Tryd.prog 7 #[u] W fun e w' => e = .returned (.tuple #[.string ⟨(drW l).toArray⟩, .int .i64 0]) ∧ RowKit.Below W.heap.size W w' := fun l h1 h2 W u h3 h4 => by have := drWrite_any u l W h3 h2 h4; rw [h1] at this; exact this
  have hwa := wz9j hba
  have hwb := wz9j hbb
  have HWa : Hid (∀ W u, RdZ W u a → TensY W → Calls Tryd.prog 7 #[u] W fun e w' => e = .returned (.tuple #[.string ⟨(drW a).toArray⟩, .int .i64 0]) ∧ RowKit.Below W.heap.size W w') := wr a hsa (by omega)
  have HWb : Hid (∀ W u, RdZ W u b → TensY W → Calls Tryd.prog 7 #[u] W fun e w' => e = .returned (.tuple #[.string ⟨(drW b).toArray⟩, .int .i64 0]) ∧ RowKit.Below W.heap.size W w') := wr b hsb (by omega)
  have HWc : Hid (∀ W u, RdZ W u (a ++ b) → TensY W → Calls Tryd.prog 7 #[u] W fun e w' => e = .returned (.tuple #[.string ⟨(drW a ++ drW b).toArray⟩, .int .i64 0]) ∧ RowKit.Below W.heap.size W w') := by
    have := wr (a ++ b) hsab (by rw [wz_app]; omega)
    rw [drW_append] at this; exact this
  have hza := drW_size9 hba hsa
  have hzb := drW_size9 hbb hsb
  have HRe : Hid (∀ W, Env W → Calls Tryd.prog 9 #[.string ⟨(drW a ++ drW b).toArray⟩] W fun e w' => ∃ v, e = .returned (.tuple #[v, .int .i64 0, .int .i64 0]) ∧ RdZ w' v (a ++ b) ∧ RowKit.Below W.heap.size W w') := fun W hW => by
    have h1 := readD_any ⟨(drW a ++ drW b).toArray⟩ W (by show (drW a ++ drW b).length ≤ _; rw [List.length_append]; omega) hW
    have h2 : parD (⟨(drW a ++ drW b).toArray⟩ : ByteArray).data.toList = (a ++ b, 0) := by
      show parD (drW a ++ drW b) = _
      rw [← drW_append]; exact par_back (a ++ b) hsab
    rw [h2] at h1
    exact h1.mono fun e w' ⟨v, q1, q2, q3, q4⟩ => ⟨v, q1, q3, q4⟩
  have hcat : ∀ W, (Op.stringOp .add ⟨(drW a).toArray⟩ ⟨(drW b).toArray⟩).run Tryd.prog W = .ok (.string ⟨(drW a ++ drW b).toArray⟩) W := cat9_run _ _ _ rfl (by omega)
  clear hra hrb he hsa hsb hsab wr hwa hwb hba hbb hza hzb
  have HSm : Hid (∀ W u v, RdZ W u (a ++ b) → RdZ W v (a ++ b) → Calls Tryd.prog 10 #[u, v] W fun e w' => e = .returned (.bool true) ∧ RowKit.Below W.heap.size W w') := fun W u v h1 h2 => by
    have := sameSteps_any u v (a ++ b) (a ++ b) W h1 h2
    rwa [show ((a ++ b) == (a ++ b)) = true from beq_self_eq_true _] at this
  generalize drW a ++ drW b = Tc at *
  generalize drW a = Ta at *
  generalize drW b = Tb at *
  go_enter Tryd.func3, Tryd.ntmps3
  go_wp2_with fail
  refine HS.out.mono ?_
  rintro e w0 ⟨rfl, hw1⟩
  obtain rfl := hw1.symm
  go_wp2_with fail
  refine HS2.out.mono ?_
  rintro e w0 ⟨rfl, hw1⟩
  obtain rfl := hw1.symm
  clear HS HS2
  -- the first text
  go_wp2_with fail
  refine (copySteps_any _ a _ HA.out).mono ?_
  rintro e w1 ⟨u1, rfl, own1, bel1⟩
  have R1 : Hid (RdZ w1 u1 a) := own1.rdz hla H8a.out
  have E1 : Hid (Env w1) := HE0.out.below bel1
  clear own1
  go_wp2_with fail
  refine (HWa.out w1 u1 R1.out E1.out.1).mono ?_
  rintro e w2 ⟨rfl, bel2⟩
  have b2 : Hid (RowKit.Below w.heap.size w w2) := Below.step bel1 bel2
  have B2 : Hid (RdZ w2 (.slice ab b.length cb) b) := HB.out.below b2.out
  clear R1 E1 bel1 bel2
  go_wp2_with fail
  refine (copySteps_any _ b _ B2.out).mono ?_
  rintro e w3 ⟨u3, rfl, own3, bel3⟩
  have R3 : Hid (RdZ w3 u3 b) := own3.rdz hlb H8b.out
  have b3 : Hid (RowKit.Below w.heap.size w w3) := Below.step b2.out bel3
  have E3 : Hid (Env w3) := HE0.out.below b3.out
  clear own3 bel3
  go_wp2_with fail
  refine (HWb.out w3 u3 R3.out E3.out.1).mono ?_
  rintro e w4 ⟨rfl, bel4⟩
  have b4 : Hid (RowKit.Below w.heap.size w w4) := Below.step b3.out bel4
  have A4 : Hid (RdZ w4 (.slice aa a.length ca) a) := HA.out.below b4.out
  clear R3 E3 bel4
  go_wp2_with fail
  refine (copySteps_any _ a _ A4.out).mono ?_
  rintro e w5 ⟨u5, rfl, own5, bel5⟩
  obtain ⟨a5, c5, hu5⟩ := own5.form
  have b5 : Hid (RowKit.Below w.heap.size w w5) := Below.step b4.out bel5
  have B5 : Hid (RdZ w5 (.slice ab b.length cb) b) := HB.out.below b5.out
  have O5 : Hid (OwnS w4.heap.size w5 u5 a) := own5
  have hs45 := bel5.size
  subst hu5
  clear own5 bel5
  go_wp2_with fail
  refine (copySteps_any _ b _ B5.out).mono ?_
  rintro e w6 ⟨u6, rfl, own6, bel6⟩
  obtain ⟨a6, c6, hu6⟩ := own6.form
  have b6 : Hid (RowKit.Below w.heap.size w w6) := Below.step b5.out bel6
  have hs56 := bel6.size
  subst hu6
  have hs4 := b4.out.size
  obtain ⟨La, hLa, eLa⟩ := O5.out.below bel6
  obtain ⟨Lb, hLb, eLb⟩ := own6
  have h8a : ∀ x ∈ La, x.2.2.length * 8 ≤ 140737488351232 := fun x hx => H8a.out (x.1, x.2.2) (by rw [← eLa]; exact List.mem_map_of_mem (f := fun x : SV => (x.1, x.2.2)) hx)
  have h8b : ∀ x ∈ Lb, x.2.2.length * 8 ≤ 140737488351232 := fun x hx => H8b.out (x.1, x.2.2) (by rw [← eLb]; exact List.mem_map_of_mem (f := fun x : SV => (x.1, x.2.2)) hx)
  have hLal : La.length = a.length := by rw [← eLa, svS_len]
  have hLbl : Lb.length = b.length := by rw [← eLb, svS_len]
  obtain ⟨r7, w7, hrun7, R7, gr7⟩ := append_steps 22 hLa hLb (by omega) (by omega) h8a h8b
  rw [eLa, eLb] at R7
  have hb7 : RowKit.Below w.heap.size w w7 := b6.out.grown gr7 b6.out.size (fun k hk => by have := (hLa.row.lt k hk).1; omega)
  obtain ⟨a7, c7, hr7, _⟩ := R7.form
  obtain ⟨nab, hnab⟩ : ∃ n, n = (a ++ b).length := ⟨_, rfl⟩
  rw [← hnab] at hr7
  clear hnab
  have HR7 : Hid (RdZ w7 r7 (a ++ b)) := R7
  have HB7 : Hid (RowKit.Below w.heap.size w w7) := hb7
  have E7 : Hid (Env w7) := HE0.out.below hb7
  subst hr7
  have HRun : Hid ((Builtin.append_ #[22, 22] 22 #[.slice a5 a.length c5, .slice a6 b.length c6]).run Tryd.prog w6 = .ok (.slice a7 nab c7) w7) := hrun7
  clear R7 hb7 gr7 hLa hLb h8a h8b hLal hLbl eLa eLb bel6 hrun7
  go_wp2_with (at_builtin; refine wpList_append_run9 rfl _ _ 22 rfl _ _ _ rfl rfl HRun.out ?_)
  refine (HWc.out w7 _ HR7.out E7.out.1).mono ?_
  rintro e w8 ⟨rfl, bel8⟩
  have b8 : Hid (RowKit.Below w.heap.size w w8) := Below.step HB7.out bel8
  have E8 : Hid (Env w8) := HE0.out.below b8.out
  have HR8 : Hid (RdZ w8 (.slice a7 nab c7) (a ++ b)) := HR7.out.below bel8
  go_wp2_with fail
  refine (HRe.out w8 E8.out).mono ?_
  rintro e w9 ⟨v, rfl, rv, bel9⟩
  have HR9 : Hid (RdZ w9 (.slice a7 nab c7) (a ++ b)) := HR8.out.below bel9
  obtain ⟨va, vc, hv, _⟩ := rv.form
  obtain ⟨nb2, hnb2⟩ : ∃ n, n = (a ++ b).length := ⟨_, rfl⟩
  rw [← hnb2] at hv
  clear hnb2
  have RV : Hid (RdZ w9 v (a ++ b)) := rv
  subst hv
  have HF : Hid (Calls Tryd.prog 10 #[.slice va nb2 vc, .slice a7 nab c7] w9 fun e w' => e = .returned (.bool true) ∧ RowKit.Below w9.heap.size w9 w') := HSm.out w9 _ _ RV.out HR9.out
  clear rv
  go_wp2_with (go_at_call 10; refine HF.out.mono ?_; rintro e w10 ⟨rfl, bel10⟩)
  go_ret
  exact ⟨rfl, Below.step (Below.step b8.out bel9) bel10⟩

end dratJoins
end Go.Proofs.YtfpmmjomccgndabDoor
