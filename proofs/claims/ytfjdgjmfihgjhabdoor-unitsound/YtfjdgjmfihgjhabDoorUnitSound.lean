/-
  UnitSound: the walk.
  KEEP: set on app at below new trans refl start ap kept rd rds mono lt add none own nil put len pos setF setV putL putR other neV same_any
-/
import Derived.Test.YtfjdgjmfihgjhabDoorUnSo
set_option linter.unusedSimpArgs false
set_option linter.unusedVariables false
namespace Go.Proofs.YtfjdgjmfihgjhabDoor
open Go Go.RowKit
theorem clz_lenS {w w' : World} {v : Int} {css : List (List Int)} {facts : List Int} {u : Value} {b : Bool} {D : List Int} (h : Clz w w' v css facts u b D) : D.length ≤ 2097152 := by
  have hn : D.Nodup := by
    by_cases h0 : cloE v css facts = 0
    · rcases h.yes h0 with ⟨_, _, e⟩ | ⟨_, _, hr, _⟩
      · rw [e]; exact List.nodup_nil
      · exact hr.imp (fun h => by intro e; subst e; omega)
    · rw [(h.no h0).2]; exact List.nodup_nil
  exact lits_few hn h.fmd
namespace unitSound
set_option maxRecDepth 100000 in
set_option maxHeartbeats 8000000 in
theorem walk (n : Int) (s : Value) (css : List (List Int)) (vf : Value) (facts : List Int) (vm : Value) (ms : List Bool) (w : World) (_ : (Lit.int .i64 n).wf = true) (hr : Rds w s css) (hf : Rd w vf facts) (hm : RdB w vm ms) (hb : css.length + (css.map List.length).sum ≤ 1048576) (hb2 : facts.length ≤ 1048576) (_ : ms.length ≤ 1048576) (hD : Deb w) :
    Calls Tryd.prog 4 #[.agg #[.int .i64 n, s], vf, vm] w fun e w' => e = .returned (.bool true) ∧ Below w.heap.size w w' := by
  have HR : Hid (Rds w s css ∧ Rd w vf facts ∧ RdB w vm ms ∧ Deb w ∧ Few css) := ⟨hr, hf, hm, hD, Few.of (by omega) (by unfold lsum; omega)⟩
  have H8 : Hid (css.length * 24 ≤ 140737488351232 ∧ (∀ z ∈ css, z.length * 8 ≤ 140737488351232) ∧ facts.length ≤ 1048576 ∧ css.length ≤ 1048576) := ⟨hr.len, rds_each hr, hb2, by omega⟩
  have HB1 : Hid (Below w.heap.size w (w.alloc (.cells #[.int .i64 n, s] 24))) := below_box _ _
  have k0 := box0 w (.int .i64 n) s 24
  have k1 := box1 w (.int .i64 n) s 24
  have hbs : w.heap.size < (w.alloc (.cells #[.int .i64 n, s] 24)).heap.size := by rw [World.size_alloc]; exact Nat.lt_succ_self _
  have HX0 : Hid (∀ W, Below (w.alloc (.cells #[.int .i64 n, s] 24)).heap.size (w.alloc (.cells #[.int .i64 n, s] 24)) W → W.cell? ⟨w.heap.size, 0, none⟩ = some (.int .i64 n) ∧ W.cell? ⟨w.heap.size, 1, none⟩ = some s) := fun W hW => ⟨(hW.cell (p := ⟨w.heap.size, 0, none⟩) hbs).trans k0, (hW.cell (p := ⟨w.heap.size, 1, none⟩) hbs).trans k1⟩
  have hlm := hm.len
  have hlf := hf.len
  obtain ⟨fa, fc, rfl, hfa, hfb, _⟩ := hf.form
  obtain ⟨am, cm, rfl, _⟩ := hm.form
  clear hr hf hm hD hb hb2 hbs k0 k1
  go_enter Tryd.func4, Tryd.ntmps4
  go_wp2_with fail
  refine (awake6_any _ (HR.out.2.2.2.1.below HB1.out)).mono ?_
  rintro e w1 ⟨rfl, bel1⟩
  generalize w.alloc (.cells #[.int .i64 n, s] 24) = W0 at *
  have HW1 : Hid (Below W0.heap.size W0 w1) := bel1
  obtain ⟨k0, k1⟩ := HX0.out w1 bel1
  clear bel1
  go_wp2_with fail
  refine (shaped6_any n s css w1 (HR.out.1.below (Below.step HB1.out HW1.out))).mono ?_
  rintro e w2 ⟨rfl, bel2⟩
  have HW2 : Hid (Below W0.heap.size W0 w2) := Below.step HW1.out bel2
  clear bel2 k0 k1 HW1
  cases hfm : frm n css
  · go_wp2
    go_ret
    exact ⟨rfl, Below.step HB1.out HW2.out⟩
  · have hn : 0 ≤ n ∧ n ≤ 1048576 := by
      unfold frm at hfm
      rw [Bool.and_eq_true] at hfm
      exact of_decide_eq_true hfm.1
    have HFm : Hid (frm n css = true) := hfm
    obtain ⟨k0, k1⟩ := HX0.out w2 HW2.out
    clear hfm
    by_cases hln : (ms.length : Int) = n
    · have HLn : Hid ((ms.length : Int) = n) := hln
      subst hln
      go_wp2_with fail
      refine (within6_any _ facts _ w2 (HR.out.2.1.below (Below.step HB1.out HW2.out)) hn.1 hn.2).mono ?_
      rintro e w3 ⟨rfl, hw3⟩
      obtain rfl : w2 = w3 := hw3.symm
      clear hw3
      cases hsd : fitsP ms.length facts
      · go_wp2
        go_ret
        exact ⟨rfl, Below.step HB1.out HW2.out⟩
      · have HSd : Hid (fitsP ms.length facts = true ∧ ∀ c ∈ css, fitsP ms.length c = true) := ⟨hsd, by
          have := HFm.out
          unfold frm at this
          rw [Bool.and_eq_true] at this
          exact List.all_eq_true.1 this.2⟩
        clear hsd
        go_wp2_with fail
        refine (satisfies_any _ s _ _ css facts ms w2 (HR.out.1.below (Below.step HB1.out HW2.out)) (HR.out.2.1.below (Below.step HB1.out HW2.out)) (HR.out.2.2.1.below (Below.step HB1.out HW2.out)) HSd.out.2 HSd.out.1).mono ?_
        rintro e w3 ⟨rfl, bel3⟩
        have HW3 : Hid (Below W0.heap.size W0 w3) := Below.step HW2.out bel3
        clear bel3 k0 k1 HW2
        cases hst : (facts.all (trv ms) && satT ms css)
        · go_wp2
          go_ret
          exact ⟨rfl, Below.step HB1.out HW3.out⟩
        · rw [Bool.and_eq_true] at hst
          have HSt : Hid (facts.all (trv ms) = true ∧ satT ms css = true) := hst
          obtain ⟨k0, k1⟩ := HX0.out w3 HW3.out
          clear hst
          go_wp2_with fail
          refine (copyFormula_any _ s css w3 (HR.out.1.below (Below.step HB1.out HW3.out))).mono ?_
          rintro e w4 ⟨u4, rfl, own4, bel4⟩
          have H4 : Hid (Rds w4 u4 css ∧ Below W0.heap.size W0 w4) := ⟨own4.rds H8.out.1 H8.out.2.1, Below.step HW3.out bel4⟩
          obtain ⟨a4, c4, e4⟩ := ownf_form own4
          subst e4
          clear own4 bel4 k0 k1 HW3
          go_wp2_with fail
          refine (copyInts_any _ facts w4 (HR.out.2.1.below (Below.step HB1.out H4.out.2))).mono ?_
          rintro e w5 ⟨u5, rfl, own5, bel5⟩
          have H5 : Hid (Rds w5 (.slice a4 css.length c4) css ∧ Rd w5 u5 facts ∧ Below W0.heap.size W0 w5) := ⟨H4.out.1.below bel5, own5.rd (by have := H8.out.2.2.1; omega), Below.step H4.out.2 bel5⟩
          obtain ⟨a5, c5, e5⟩ := own_form own5
          subst e5
          clear own5 bel5 H4
          go_wp2_with fail
          refine (uClose_any _ _ _ css facts w5 H5.out.1 H5.out.2.1 HR.out.2.2.2.2 (HR.out.2.2.2.1.below (Below.step HB1.out H5.out.2.2))).mono ?_
          rintro e w6 ⟨u6, cl6, D, rfl, cz6⟩
          have hE : cloE ms.length css facts = 0 := by
            have : facts.all fmd = true := List.all_eq_true.2 fun x hx => by
              have h1 := List.all_eq_true.1 HSd.out.1 _ hx
              rw [Bool.and_eq_true] at h1
              exact h1.1
            unfold cloE; rw [HFm.out, this]; rfl
          rw [hE]
          have hS := cz6.yes hE
          have hcl : cl6 = false := by
            rcases hS with ⟨_, c, _⟩ | ⟨e, _⟩
            · exact absurd c (no_clash rfl HSd.out.2 HSd.out.1 HSt.out.1 HSt.out.2)
            · exact e
          subst hcl
          have HDer : Hid (∀ x, x ∈ D ↔ Der css facts x) := by
            rcases hS with ⟨e, _⟩ | ⟨_, _, _, f⟩
            · cases e
            · exact f
          have hlD : D.length ≤ 2097152 := clz_lenS cz6
          have H6 : Hid (Rd w6 u6 D ∧ Below W0.heap.size W0 w6) := ⟨cz6.own.rd (by omega), Below.step H5.out.2.2 cz6.bel⟩
          obtain ⟨a6, c6, e6⟩ := own_form cz6.own
          subst e6
          have HT : Hid (∀ x ∈ D, fmd x = true ∧ varOf x ≤ ms.length ∧ trv ms x = true) := fun x hx => der_true rfl HSd.out.2 HSd.out.1 HSt.out.1 HSt.out.2 ((HDer.out x).1 hx)
          have HIn : Hid (∀ x ∈ facts, D.contains x = true) := fun x hx => List.contains_iff_mem.2 ((HDer.out x).2 (.fact hx))
          clear cz6 hE hS H5 HDer HSt
          go_wp2
          go_loopg [10] D.length (fun q i' wr => ∃ k : Nat, k + q = D.length ∧ i' = .int .i64 k ∧ Hid (Below w6.heap.size w6 wr))
          case atStart => exact ⟨0, by omega, rfl, Below.refl _ _⟩
          case round =>
            obtain ⟨k, hk, rfl, HBw⟩ := hrel
            have HK : Hid (k + gk = D.length) := hk
            obtain ⟨k0, k1⟩ := HX0.out wr (Below.step H6.out.2 HBw.out)
            clear hk
            by_cases hlt : k < D.length
            · obtain ⟨ax, cx, ex, _, _, hcx⟩ := (H6.out.1.below HBw.out).form
              injection ex with ex1 _ ex3
              subst ex1; subst ex3
              obtain ⟨bb, off, rfl, kc⟩ := hcx k hlt
              obtain ⟨hfz, hvz, htz⟩ := HT.out _ (getD_mem' (d := 0) hlt)
              have HM : Hid (∀ q, Calls Tryd.prog 15 #[.slice am ms.length cm, .int .i64 (D.getD k 0)] (wr.drewN q) fun e w' => e = .returned (.bool true) ∧ w' = wr.drewN q) := fun q => by
                have := makes_any (.slice am ms.length cm) ms (D.getD k 0) (wr.drewN q) (HR.out.2.2.1.below (Below.step HB1.out (Below.step H6.out.2 (Below.step HBw.out (below_drewN _ _))))) hfz hvz
                rw [htz] at this
                exact this
              have HLT : Hid (k < D.length) := hlt
              clear hcx htz
              generalize D.getD k 0 = z at *
              obtain ⟨hz0, hz1, hz2⟩ := fmd_range hfz
              have hzn : z ≤ ms.length ∧ -(ms.length : Int) ≤ z := by
                rcases Int.lt_or_gt_of_ne hz0 with hs | hs
                · have := (there_neg hfz hs).2; omega
                · have := (there_pos hfz hs).2; omega
              have d0 : (z == 0) = false := by rw [beq_eq_false_iff_ne]; exact hz0
              have d0' : decide (z = 0) = false := decide_eq_false hz0
              have d1 : decide ((ms.length : Int) < z) = false := decide_eq_false (by omega)
              have e1 : wrap64 (-(ms.length : Int)) = -(ms.length : Int) := by unfold wrap64; omega
              have d2 : decide (z < -(ms.length : Int)) = false := decide_eq_false (by omega)
              clear hfz hvz
              go_wp2_with fail
              go_quiet ((go_at_call 15; exact Calls.quiet_of_same (HM.out _)))
              go_wp2
              go_roundg (gk - 1)
              case measure => have := HK.out; have := HLT.out; omega
              case rel => exact ⟨k + 1, by have := HK.out; have := HLT.out; omega, by go_num, Below.step HBw.out (below_drewN _ _)⟩
            · obtain rfl : k = D.length := by have := HK.out; omega
              have H7 : Hid (Rd wr (.slice a6 D.length c6) D ∧ Below W0.heap.size W0 wr) := ⟨H6.out.1.below HBw.out, Below.step H6.out.2 HBw.out⟩
              clear k0 k1 HBw H6 HK
              generalize wr = w7 at *
              go_wp2
              clear hlt
              go_loopg [11] facts.length (fun q i' wr => ∃ k : Nat, k + q = facts.length ∧ i' = .int .i64 k ∧ wr = w7)
              case atStart => exact ⟨0, by omega, rfl, rfl⟩
              case round =>
                obtain ⟨k, hk, rfl, hwr⟩ := hrel
                obtain rfl : w7 = wr := hwr.symm
                have HK : Hid (k + gk = facts.length) := hk
                clear hwr hk
                by_cases hlt : k < facts.length
                · obtain ⟨ax, cx, ex, _, _, hcx⟩ := (HR.out.2.1.below (Below.step HB1.out H7.out.2)).form
                  injection ex with ex1 _ ex3
                  subst ex1; subst ex3
                  obtain ⟨bb, off, rfl, kc⟩ := hcx k hlt
                  have HLT : Hid (k < facts.length) := hlt
                  have HI : Hid (D.contains (facts.getD k 0) = true) := HIn.out _ (getD_mem' hlt)
                  clear hcx
                  generalize facts.getD k 0 = y at *
                  go_wp2_with fail
                  refine (hasInt6_any _ D y w7 H7.out.1).mono ?_
                  rintro e w8 ⟨rfl, hw8⟩
                  obtain rfl : w7 = w8 := hw8.symm
                  rw [HI.out]
                  clear hw8
                  go_wp2
                  go_roundg (gk - 1)
                  case measure => have := HK.out; have := HLT.out; omega
                  case rel => exact ⟨k + 1, by have := HK.out; have := HLT.out; omega, by go_num, rfl⟩
                · go_wp2
                  go_ret
                  exact ⟨rfl, Below.step HB1.out H7.out.2⟩
    · go_wp2
      go_ret
      exact ⟨rfl, Below.step HB1.out HW2.out⟩
end unitSound
end Go.Proofs.YtfjdgjmfihgjhabDoor
