/-
  rup: the document's Blocked.
  KEEP: set on app at below new trans refl start ap kept rd rds mono lt add none own nil put len pos setF setV putL putR other neV same_any get at pos
-/
import Derived.Test.YtkinilhapgagcaaRpD
set_option linter.unusedSimpArgs false
set_option linter.unusedVariables false
namespace Go.Proofs.Ytkinilhapgagcaa
open Go Go.RowKit

theorem blkA_take {c : List Int} {ds : List (List Int)} {p : Int} {j : Nat} (h : j < ds.length) : blkA p c (ds.take (j + 1)) = (blkA p c (ds.take j) && (!decide (-p ∈ ds.getD j []) || blk1 p c (ds.getD j []))) := by
  unfold blkA
  rw [List.take_succ_eq_append_getElem h, List.all_append, List.getD_eq_getElem?_getD, List.getElem?_eq_getElem h]
  simp
theorem blkA_stop {css : List (List Int)} {c : List Int} {p : Int} {j : Nat} (h : j < css.length) (hm : -p ∈ css.getD j []) (hc : blk1 p c (css.getD j []) = false) : blkA p c css = false := by
  unfold blkA
  rw [List.all_eq_false]
  refine ⟨_, getD_in8 h, ?_⟩
  rw [decide_eq_true hm, hc]
  simp
set_option maxRecDepth 100000 in
set_option maxHeartbeats 3200000 in
theorem rBlocked_any (v : Int) (s vc : Value) (css : List (List Int)) (c : List Int) (w : World) (hr : Rds w s css) (hc : Rd w vc c) :
    Calls Try.prog 10 #[.agg #[.int .i64 v, s], vc] w fun e w' => e = .returned (.tuple #[.bool (shB v css c && blkB css c), .int .i64 (shBE (shB v css c))]) ∧ Below w.heap.size w w' := by
  have HX : Hid (Bx w v s css (w.alloc (.cells #[.int .i64 v, s] 24))) := Bx.new hr _
  have HR : Hid (Rd w vc c) := hc
  have hlr := hr.len
  have hlc := hc.len
  obtain ⟨ac, cc, rfl, -, -, -⟩ := hr.form
  obtain ⟨av, cv, rfl, -, -, hcell⟩ := hc.form
  have HSv : Hid (shB v css c = (frm v css && c.all fmd)) := rfl
  have HC0 : Hid (∀ W, Below w.heap.size w W → 0 < c.length → ∃ bb off, av = some ⟨bb, off, none⟩ ∧ W.cell? ⟨bb, off, none⟩ = some (.int .i64 (c.getD 0 0))) := fun W hW h0 => by
    obtain ⟨bb, off, e, hc⟩ := hcell 0 h0
    exact ⟨bb, off, e, (hW.cell (p := ⟨bb, off + 0, none⟩) (World.block_lt_of_cell? w _ hc)).trans hc⟩
  clear hr hc hcell
  go_enter Try.func10, Try.ntmps10
  go_wp2_with fail
  refine (rFormed_any v _ css _ HX.out.rd).mono ?_
  rintro e w1 ⟨rfl, bel1⟩
  have HX1 : Hid (Bx w v (.slice ac css.length cc) css w1) := HX.out.on bel1
  have c0 := HX1.out.c0
  have c1 := HX1.out.c1
  clear bel1 HX
  cases hf : frm v css
  · have HS : Hid (shB v css c = false) := by show _ = _; rw [HSv.out, hf]; rfl
    clear hf
    go_wp2
    go_ret2
    exact ⟨two_sameB (congrArg Value.bool (by rw [HS.out]; rfl)) (congrArg (fun b => Value.int .i64 (shBE b)) HS.out.symm), HX1.out.bel⟩
  have HFr : Hid (frm v css = true) := hf
  have HSd : Hid (Calls Try.prog 20 #[.slice av c.length cv] w1 fun e w' => e = .returned (.bool (c.all fmd)) ∧ w' = w1) := rSound_any _ c w1 (HR.out.below HX1.out.bel)
  cases hs : c.all fmd
  · have HS : Hid (shB v css c = false) := by show _ = _; rw [HSv.out, hf, hs]; rfl
    rw [hs] at HSd
    clear hf hs
    go_wp2_with fail
    refine HSd.out.mono ?_
    rintro e w9 ⟨rfl, hw9⟩
    obtain rfl := hw9.symm
    clear hw9
    go_wp2
    go_ret2
    exact ⟨two_sameB (congrArg Value.bool (by rw [HS.out]; rfl)) (congrArg (fun b => Value.int .i64 (shBE b)) HS.out.symm), HX1.out.bel⟩
  have HS : Hid (shB v css c = true) := by show _ = _; rw [HSv.out, hf, hs]; rfl
  have HAl : Hid (c.all fmd = true) := hs
  rw [hs] at HSd
  clear hf hs
  cases c with
  | nil =>
    go_wp2_with fail
    refine HSd.out.mono ?_
    rintro e w9 ⟨rfl, hw9⟩
    obtain rfl := hw9.symm
    clear hw9
    go_wp2
    go_ret2
    exact ⟨two_sameB (congrArg Value.bool (by rw [HS.out]; rfl)) (congrArg (fun b => Value.int .i64 (shBE b)) HS.out.symm), HX1.out.bel⟩
  | cons p r =>
    have hpos : 0 < (p :: r).length := by simp
    have hp1 : (((p :: r).length : Int) == 0) = false := beq_eq_false_iff_ne.2 (by have := hpos; omega)
    obtain ⟨bb, off, rfl, k00⟩ := HC0.out w1 HX1.out.bel hpos
    have HK : Hid (∀ W, Below w1.heap.size w1 W → W.cell? ⟨bb, off, none⟩ = some (.int .i64 p)) := fun W hW => (hW.cell (p := ⟨bb, off, none⟩) (World.block_lt_of_cell? w1 _ k00)).trans k00
    have hpf : fmd p = true := by have := HAl.out; rw [List.all_cons, Bool.and_eq_true] at this; exact this.1
    have hpr := fmd_range hpf
    have hwp : IntKind.i64.wrap (-p) = -p := by rw [IntKind.wrap_i64]; omega
    have HE : Hid (blkB css (p :: r) = blkA p (p :: r) css) := rfl
    have HB1 : Hid (∀ d, blk1 p (p :: r) d = adj (tid (wout (tid (p :: r)) p ++ wout (tid d) (-p)))) := fun d => rfl
    clear k00
    generalize hq : p :: r = q at *
    have HPQ : Hid (p :: r = q) := hq
    clear hq HC0
    go_wp2_with fail
    refine HSd.out.mono ?_
    rintro e w9 ⟨rfl, hw9⟩
    obtain rfl := hw9.symm
    clear hw9
    go_wp2
    go_loopg [6] css.length (fun g i wr => ∃ k : Nat, k + g = css.length ∧ i = .int .i64 k ∧ blkA p q (css.take k) = true ∧ Below w1.heap.size w1 wr)
    case atStart => exact ⟨0, by omega, rfl, rfl, Below.refl _ _⟩
    case round =>
      obtain ⟨k, hk, rfl, hpar, bel⟩ := hrel
      have HKk : Hid (k + gk = css.length) := hk
      have HPar : Hid (blkA p q (css.take k) = true) := hpar
      have HXr : Hid (Bx w v (.slice ac css.length cc) css wr) := HX1.out.on bel
      have HBr : Hid (Below w1.heap.size w1 wr) := bel
      have d0 := HXr.out.c0
      have d1 := HXr.out.c1
      have kp := HK.out wr bel
      clear hk hpar bel
      by_cases hlt : k < css.length
      · obtain ⟨b2, o2, u, rfl, kc, hu⟩ := HXr.out.at hlt
        have HU : Hid (Rd wr u (css.getD k [])) := hu
        obtain ⟨ua, uc, rfl, -, -, -⟩ := hu.form
        have HLT : Hid (k < css.length) := hlt
        have HTk : Hid (blkA p q (css.take (k + 1)) = (blkA p q (css.take k) && (!decide (-p ∈ css.getD k []) || blk1 p q (css.getD k [])))) := blkA_take hlt
        have HSt : Hid (-p ∈ css.getD k [] → blk1 p q (css.getD k []) = false → blkA p q css = false) := fun h1 h2 => blkA_stop hlt h1 h2
        clear hu
        generalize css.getD k [] = d at *
        have HHas0 := refHas_any (.slice ua d.length uc) d (-p) wr HU.out
        rw [fmd_neg hpf, Bool.true_and] at HHas0
        by_cases hm : -p ∈ d
        · have hb : d.contains (-p) = true := List.contains_iff_mem.2 hm
          rw [hb] at HHas0
          have HHas : Hid (Calls Try.prog 15 #[.slice ua d.length uc, .int .i64 (-p)] wr fun e w' => e = .returned (.bool true) ∧ w' = wr) := HHas0
          have HM : Hid (-p ∈ d) := hm
          clear HHas0 hb hm
          go_wp2_with fail
          refine HHas.out.mono ?_
          rintro e w9 ⟨rfl, hw9⟩
          obtain rfl := hw9.symm
          clear hw9
          go_wp2_with fail
          refine (refWithout_any _ q p wr (HR.out.below HXr.out.bel)).mono ?_
          rintro e w2 ⟨v2, rfl, own2, bel2⟩
          have hl2 := wout_len (tid q) p
          have hl2' := tid_len q
          have HO2 : Hid (Rd w2 v2 (wout (tid q) p) ∧ Below wr.heap.size wr w2) := ⟨own2.rd (by omega), bel2⟩
          obtain ⟨a2, c2, e2⟩ := own_form own2
          subst e2
          have kp2 := HK.out w2 (Below.step HBr.out HO2.out.2)
          clear own2 bel2 kp
          go_wp2_with fail
          refine (refWithout_any _ d (-p) w2 (HU.out.below HO2.out.2)).mono ?_
          rintro e w3 ⟨v3, rfl, own3, bel3⟩
          have hl3 := wout_len (tid d) (-p)
          have hl3' := tid_len d
          have HO3 : Hid (Rd w3 v3 (wout (tid d) (-p)) ∧ Below w2.heap.size w2 w3) := ⟨own3.rd (by omega), bel3⟩
          obtain ⟨a3, c3, e3⟩ := own_form own3
          subst e3
          clear own3 bel3 kp2
          go_wp2_with fail
          refine (refJoin_any _ _ (wout (tid q) p) (wout (tid d) (-p)) w3 (HO2.out.1.below HO3.out.2) HO3.out.1).mono ?_
          rintro e w4 ⟨v4, rfl, own4, bel4⟩
          have hl4 := tid_len (wout (tid q) p ++ wout (tid d) (-p))
          have HO4 : Hid (Rd w4 v4 (tid (wout (tid q) p ++ wout (tid d) (-p))) ∧ Below wr.heap.size wr w4) := ⟨own4.rd (by omega), Below.step HO2.out.2 (Below.step HO3.out.2 bel4)⟩
          obtain ⟨a4, c4, e4⟩ := own_form own4
          subst e4
          clear own4 bel4
          have HTau : Hid (Calls Try.prog 23 #[.slice a4 (tid (wout (tid q) p ++ wout (tid d) (-p))).length c4] w4 fun e w' => e = .returned (.bool (blk1 p q d)) ∧ Below w4.heap.size w4 w') := by
            have h9 := refTaut_any _ _ w4 HO4.out.1
            rw [tid_id (tid_rising _) tid_fmd] at h9
            rw [HB1.out]
            exact h9
          clear hl2 hl2' hl3 hl3' hl4
          generalize (tid (wout (tid q) p ++ wout (tid d) (-p))).length = l4 at *
          generalize (wout (tid d) (-p)).length = l3 at *
          generalize (wout (tid q) p).length = l2 at *
          generalize hcb : blk1 p q d = cb at *
          have HCb : Hid (blk1 p q d = cb) := hcb
          clear hcb
          go_wp2_with fail
          refine HTau.out.mono ?_
          rintro e w5 ⟨rfl, bel5⟩
          have HB5 : Hid (Below wr.heap.size wr w5) := Below.step HO4.out.2 bel5
          clear bel5 HTau
          cases cb with
          | true =>
            have HF : Hid (blkA p q (css.take (k + 1)) = true) := by show _ = _; rw [HTk.out, HPar.out]; simp
            go_wp2
            go_roundg (gk - 1)
            case measure => have := HKk.out; have := HLT.out; omega
            case rel => exact ⟨k + 1, by have := HKk.out; have := HLT.out; omega, by go_num, HF.out, Below.step HBr.out HB5.out⟩
          | false =>
            have HF : Hid (blkA p q css = false) := HSt.out HM.out (by first | exact HCb.out | rfl)
            go_wp2
            go_ret2
            exact ⟨two_sameB (congrArg Value.bool (by first | (rw [HPQ.out, HS.out, HE.out, HF.out]; rfl) | (rw [HS.out, HE.out, HF.out]; rfl))) (show Value.int .i64 (shBE true) = Value.int .i64 (shBE (shB v css (p :: r))) by rw [HPQ.out, HS.out]), Below.step HXr.out.bel HB5.out⟩
        · have hb : d.contains (-p) = false := by
            cases h9 : d.contains (-p)
            · rfl
            · exact absurd (List.contains_iff_mem.1 h9) hm
          rw [hb] at HHas0
          have HHas : Hid (Calls Try.prog 15 #[.slice ua d.length uc, .int .i64 (-p)] wr fun e w' => e = .returned (.bool false) ∧ w' = wr) := HHas0
          have HF : Hid (blkA p q (css.take (k + 1)) = true) := by show _ = _; rw [HTk.out, HPar.out, decide_eq_false hm]; rfl
          clear HHas0 hb hm
          go_wp2_with fail
          refine HHas.out.mono ?_
          rintro e w9 ⟨rfl, hw9⟩
          obtain rfl := hw9.symm
          clear hw9
          go_wp2
          go_roundg (gk - 1)
          case measure => have := HKk.out; have := HLT.out; omega
          case rel => exact ⟨k + 1, by have := HKk.out; have := HLT.out; omega, by go_num, HF.out, HBr.out⟩
      · have hke : k = css.length := by have := HKk.out; omega
        have HF : Hid (blkA p q css = true) := by
          have := HPar.out
          rw [hke, List.take_length] at this
          exact this
        clear hke
        go_wp2
        go_ret2
        exact ⟨two_sameB (congrArg Value.bool (by first | (rw [HPQ.out, HS.out, HE.out, HF.out]; rfl) | (rw [HS.out, HE.out, HF.out]; rfl))) (show Value.int .i64 (shBE true) = Value.int .i64 (shBE (shB v css (p :: r))) by rw [HPQ.out, HS.out]), HXr.out.bel⟩
end Go.Proofs.Ytkinilhapgagcaa
