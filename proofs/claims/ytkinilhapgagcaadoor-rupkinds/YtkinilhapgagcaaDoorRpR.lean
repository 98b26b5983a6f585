/-
  rup: the document's Follows, Safe, Kind.
  KEEP: set on app at below new trans refl start ap kept rd rds mono lt add none own nil put len pos setF setV putL putR other neV same_any num form fin yes
-/
import Derived.Test.YtkinilhapgagcaaDoorRpL
import Derived.Test.YtkinilhapgagcaaDoorRpK
import Derived.Test.YtkinilhapgagcaaDoorRUz
import Derived.Test.YtkinilhapgagcaaDoorRefW
set_option linter.unusedSimpArgs false
set_option linter.unusedVariables false
namespace Go.Proofs.YtkinilhapgagcaaDoor
open Go Go.RowKit

theorem map_take8 {c : List Int} {j : Nat} (h : j < c.length) : (c.take (j + 1)).map ngw = (c.take j).map ngw ++ [ngw (c.getD j 0)] := by
  rw [take_succ_getD c 0 j h, List.map_append]; rfl
set_option maxHeartbeats 1600000 in
theorem rOpp_any (v : Value) (c : List Int) (w : World) (hr : Rd w v c) :
    Calls Tryd.prog 39 #[v] w fun e w' => ∃ v', e = .returned v' ∧ Own w.heap.size w' v' (c.map ngw) ∧ Below w.heap.size w w' := by
  have hl := hr.len
  obtain ⟨i0, hi, hz0, hz1, hz2⟩ := info_parts Tryd.info3
  obtain ⟨a, cv, rfl, l1, l2, hcell⟩ := hr.form
  have HC : Hid (∀ (W : World) (j : Nat), Below w.heap.size w W → j < c.length → ∃ bb off, a = some ⟨bb, off, none⟩ ∧ W.cell? ⟨bb, off + j, none⟩ = some (.int .i64 (c.getD j 0))) := fun W j hW hj => by
    obtain ⟨bb, off, e, hc⟩ := hcell j hj
    exact ⟨bb, off, e, (hW.cell (p := ⟨bb, off + j, none⟩) (World.block_lt_of_cell? w _ hc)).trans hc⟩
  clear hr hcell
  go_enter Tryd.func39, Tryd.ntmps39
  go_wp2
  go_loopg [3, 4] c.length (fun g v i wr => ∃ k : Nat, k + g = c.length ∧ i = .int .i64 k ∧ Own w.heap.size wr v ((c.take k).map ngw) ∧ Below w.heap.size w wr)
  case atStart => exact ⟨0, by omega, rfl, World.ownsRow_nil _ _ _ _, Below.refl _ _⟩
  case round =>
    obtain ⟨k, hk, rfl, own, bel⟩ := hrel
    have HK : Hid (k + gk = c.length) := hk
    have hs := bel.size
    by_cases hlt : k < c.length
    · obtain ⟨b, off, rfl, hck⟩ := HC.out wr k bel hlt
      have HS : Hid ((c.take (k + 1)).map ngw = (c.take k).map ngw ++ [ngw (c.getD k 0)]) := map_take8 hlt
      have hlk : ((c.take k).map ngw).length ≤ c.length := by rw [List.length_map, List.length_take]; omega
      have hng : IntKind.i64.wrap (-(c.getD k 0)) = ngw (c.getD k 0) := rfl
      clear hk
      generalize ngw (c.getD k 0) = z2 at *
      generalize c.getD k 0 = z at *
      generalize (c.take k).map ngw = out at *
      go_wp2_with (at_builtin; refine wpList_append_own _ rfl _ _ 25 rfl w.heap.size 3 i0 (.int .i64 0) 1 8 Tryd.underlying25 hi hz0 hz1 hz2 rfl (by decide) _ out.length (out.map (Value.int .i64)) rfl (World.ownsRow.alloc own _) _ 1 1 [.int .i64 z2] rfl rfl (cell_one_new _ _ _) (by simp [Value.oneCell']) (by unfold maxLen; omega) (by omega) (by simp; omega) ?_; intro v2 w2 own2 gr2 hn2)
      go_roundg (gk - 1)
      case measure => have := HK.out; omega
      case rel => exact ⟨k + 1, by have := HK.out; omega, by go_num, by rw [HS.out]; exact own_more8 own2, (bel.alloc hs _).grown gr2 (by simp; omega) (fun j hj => (own.lt j hj).1)⟩
    · obtain rfl : k = c.length := by omega
      clear hk
      rw [List.take_length] at own
      go_wp2
      go_ret
      exact ⟨_, rfl, own, bel⟩
set_option maxHeartbeats 1600000 in
theorem rfol_any (v : Int) (s vc : Value) (css : List (List Int)) (c : List Int) (w : World) (hr : Rds w s css) (hc : Rd w vc c) (hw : Few css) (hf : frm v css = true) (hs : c.all fmd = true) :
    Calls Tryd.prog 25 #[.agg #[.int .i64 v, s], vc] w fun e w' => e = .returned (.bool (folB css c)) ∧ Below w.heap.size w w' := by
  have HX : Hid (Bx w v s css (w.alloc (.cells #[.int .i64 v, s] 24))) := Bx.new hr _
  have HR : Hid (Rd w vc c ∧ Few css ∧ frm v css = true ∧ c.all fmd = true) := ⟨hc, hw, hf, hs⟩
  have hlc := hc.len
  clear hr hc hw hf hs
  go_enter Tryd.func25, Tryd.ntmps25
  go_wp2_with fail
  refine (rOpp_any vc c _ (HR.out.1.below (below_box _ _))).mono ?_
  rintro e w1 ⟨v1, rfl, own1, bel1⟩
  rw [opw_opp HR.out.2.2.2] at own1
  have HX1 : Hid (Bx w v s css w1) := HX.out.on bel1
  have HO : Hid (Rd w1 v1 (opp c)) := own1.rd (by unfold opp; rw [List.length_map]; exact hlc)
  obtain ⟨a1, c1', e1⟩ := own_form own1
  subst e1
  have c0 := HX1.out.c0
  have c1 := HX1.out.c1
  clear own1 bel1 HX
  go_wp2_with fail
  refine (rClosing_any v s _ css (opp c) w1 HX1.out.rd HO.out HR.out.2.2.1 (by
    rw [List.all_eq_true]
    intro x hx
    have h3 := List.all_eq_true.1 HR.out.2.2.2 _ (mem_opp.1 hx)
    have h4 := fmd_neg h3
    rw [Int.neg_neg] at h4
    exact h4) HR.out.2.1.num).mono ?_
  rintro e w2 ⟨g, clash, rfl, bel2, hyes, hno⟩
  have HV : Hid (clash = folB css c) := by
    show _ = _
    cases clash with
    | true => exact (claB_of (hyes rfl)).symm
    | false => obtain ⟨L, -, -, -, hn, -⟩ := hno rfl; exact (claB_not hn).symm
  have HB : Hid (Below w.heap.size w w2) := Below.step HX1.out.bel bel2
  clear hyes hno bel2 c0 c1
  generalize (topL css (opp c)).toNat + 1 = tl at *
  go_wp2
  go_ret
  exact ⟨congrArg (fun x => Ending.returned (.bool x)) HV.out, HB.out⟩
/-- the document's answers to what comes in -/
theorem shp_parts {v : Int} {css : List (List Int)} {c : List Int} (h : shp v css c = true) : frm v css = true ∧ c.all fmd = true := by unfold shp at h; rw [Bool.and_eq_true] at h; exact h
theorem mem_both {c d : List Int} {q x : Int} (hc : c.all fmd = true) (hd : ∀ l ∈ d, fmd l = true) : x ∈ tid (c ++ wout (tid d) q) ↔ x ∈ c ∨ (x ∈ d ∧ x ≠ q) := by
  rw [mem_tid, List.mem_append]
  unfold wout
  rw [List.mem_filter, mem_tid, bne_iff_ne]
  constructor
  · rintro ⟨h | ⟨⟨h, _⟩, h2⟩, _⟩
    · exact .inl h
    · exact .inr ⟨h, h2⟩
  · rintro (h | ⟨h, h2⟩)
    · exact ⟨.inl h, List.all_eq_true.1 hc x h⟩
    · exact ⟨.inr ⟨⟨h, hd x h⟩, h2⟩, hd x h⟩
theorem fol_both {css : List (List Int)} {p : Int} {r d : List Int} (hc : (p :: r).all fmd = true) (hd : ∀ l ∈ d, fmd l = true) : folB css (tid ((p :: r) ++ wout (tid d) (-p))) = claB css (opp (p :: r) ++ opp (rst d p)) := by
  unfold folB
  refine claB_congr (cla_set fun x => ?_)
  rw [mem_opp, mem_both hc hd, List.mem_append, mem_opp, mem_opp, mem_rst]
theorem parB_take {css ds : List (List Int)} {L : List Int} {p : Int} {j : Nat} (h : j < ds.length) : parB css L p (ds.take (j + 1)) = (parB css L p (ds.take j) && (!decide (-p ∈ ds.getD j []) || claB css (L ++ opp (rst (ds.getD j []) p)))) := by
  unfold parB
  rw [List.take_succ_eq_append_getElem h, List.all_append, List.getD_eq_getElem?_getD, List.getElem?_eq_getElem h]
  simp
theorem parB_stop {css : List (List Int)} {L : List Int} {p : Int} {j : Nat} (h : j < css.length) (hm : -p ∈ css.getD j []) (hc : claB css (L ++ opp (rst (css.getD j []) p)) = false) : parB css L p css = false := by
  unfold parB
  rw [List.all_eq_false]
  refine ⟨_, getD_in h, ?_⟩
  rw [decide_eq_true hm, hc]
  simp
set_option maxRecDepth 100000 in
set_option maxHeartbeats 3200000 in
theorem rsafe_any (v : Int) (s vc : Value) (css : List (List Int)) (c : List Int) (w : World) (hr : Rds w s css) (hc : Rd w vc c) (hw : Few css) (hf : frm v css = true) (hs : c.all fmd = true) :
    Calls Tryd.prog 27 #[.agg #[.int .i64 v, s], vc] w fun e w' => e = .returned (.bool (safB css c)) ∧ Below w.heap.size w w' := by
  have HX : Hid (Bx w v s css (w.alloc (.cells #[.int .i64 v, s] 24))) := Bx.new hr _
  have HR : Hid (Rd w vc c ∧ Few css ∧ frm v css = true ∧ c.all fmd = true) := ⟨hc, hw, hf, hs⟩
  have hN := hw.num
  have hlc := hc.len
  obtain ⟨ac, cc, rfl, -, -, -⟩ := hr.form
  obtain ⟨av, cv, rfl, -, -, hcell⟩ := hc.form
  have c0 := HX.out.c0
  have c1 := HX.out.c1
  cases c with
  | nil =>
    have HB : Hid (Below w.heap.size w (w.alloc (.cells #[.int .i64 v, .slice ac css.length cc] 24))) := HX.out.bel
    clear hr hc hw hf hs hcell
    go_enter Tryd.func27, Tryd.ntmps27
    go_wp2
    go_ret
    exact ⟨rfl, HB.out⟩
  | cons p r =>
    obtain ⟨bb, off, rfl, k0⟩ := hcell 0 (by simp)
    have HK : Hid (∀ W, Below w.heap.size w W → W.cell? ⟨bb, off, none⟩ = some (.int .i64 p)) := fun W hW => (hW.cell (p := ⟨bb, off + 0, none⟩) (World.block_lt_of_cell? w _ k0)).trans k0
    have hpf : fmd p = true := by rw [List.all_cons, Bool.and_eq_true] at hs; exact hs.1
    have hpr := fmd_range hpf
    have hwp : IntKind.i64.wrap (-p) = -p := by rw [IntKind.wrap_i64]; omega
    have HE : Hid (safB css (p :: r) = parB css (opp (p :: r)) p css) := rfl
    have HLn : Hid (∀ d ∈ css, ∀ l ∈ d, fmd l = true) := frm_fmd hf
    have hcl0 : ¬ (((p :: r).length : Int) = 0) := by have h8 : 0 < (p :: r).length := (by simp); omega
    have hclp : 0 < (p :: r).length := by simp
    clear hr hc hw hf hs hcell k0
    have HFB : Hid (∀ d ∈ css, folB css (tid ((p :: r) ++ wout (tid d) (-p))) = claB css (opp (p :: r) ++ opp (rst d p))) := fun d hd => fol_both HR.out.2.2.2 (HLn.out d hd)
    generalize hcq : p :: r = q at *
    clear hcq
    have hcl1 : ((q.length : Int) == 0) = false := beq_eq_false_iff_ne.2 hcl0
    go_enter Tryd.func27, Tryd.ntmps27
    go_wp2
    go_loopg [5] css.length (fun g i wr => ∃ k : Nat, k + g = css.length ∧ i = .int .i64 k ∧ parB css (opp q) p (css.take k) = true ∧ Below (w.alloc (.cells #[.int .i64 v, .slice ac css.length cc] 24)).heap.size (w.alloc (.cells #[.int .i64 v, .slice ac css.length cc] 24)) wr)
    case atStart => exact ⟨0, by omega, rfl, rfl, Below.refl _ _⟩
    case round =>
      obtain ⟨k, hk, rfl, hpar, bel⟩ := hrel
      have HKk : Hid (k + gk = css.length) := hk
      have HPar : Hid (parB css (opp q) p (css.take k) = true) := hpar
      have HXr : Hid (Bx w v (.slice ac css.length cc) css wr) := HX.out.on bel
      have HBr : Hid (Below (w.alloc (.cells #[.int .i64 v, .slice ac css.length cc] 24)).heap.size (w.alloc (.cells #[.int .i64 v, .slice ac css.length cc] 24)) wr) := bel
      have d0 := HXr.out.c0
      have d1 := HXr.out.c1
      have kp := HK.out wr HXr.out.bel
      clear hk hpar bel
      by_cases hlt : k < css.length
      · obtain ⟨b2, o2, u, rfl, kc, hu⟩ := HXr.out.at hlt
        have HU : Hid (Rd wr u (css.getD k [])) := hu
        obtain ⟨ua, uc, rfl, -, -, -⟩ := hu.form
        have HLT : Hid (k < css.length) := hlt
        have HTk : Hid (parB css (opp q) p (css.take (k + 1)) = (parB css (opp q) p (css.take k) && (!decide (-p ∈ css.getD k []) || claB css (opp q ++ opp (rst (css.getD k []) p))))) := parB_take hlt
        have HSt : Hid (-p ∈ css.getD k [] → claB css (opp q ++ opp (rst (css.getD k []) p)) = false → parB css (opp q) p css = false) := fun h1 h2 => parB_stop hlt h1 h2
        have HFd := HFB.out _ (getD_in hlt)
        have HFd : Hid (folB css (tid (q ++ wout (tid (css.getD k [])) (-p))) = claB css (opp q ++ opp (rst (css.getD k []) p))) := HFd
        have hdf := HLn.out _ (getD_in hlt)
        have HDf : Hid (∀ l ∈ css.getD k [], fmd l = true) := hdf
        have hdl := HR.out.2.1.len _ (getD_in hlt)
        clear hu hdf
        generalize css.getD k [] = d at *
        have HHas0 := refHas_any (.slice ua d.length uc) d (-p) wr HU.out
        rw [fmd_neg hpf, Bool.true_and] at HHas0
        by_cases hm : -p ∈ d
        · have hb : d.contains (-p) = true := List.contains_iff_mem.2 hm
          rw [hb] at HHas0
          have HHas : Hid (Calls Tryd.prog 44 #[.slice ua d.length uc, .int .i64 (-p)] wr fun e w' => e = .returned (.bool true) ∧ w' = wr) := HHas0
          have HM : Hid (-p ∈ d) := hm
          clear HHas0 hb hm
          go_wp2_with fail
          refine HHas.out.mono ?_
          rintro e w9 ⟨rfl, hw9⟩
          obtain rfl := hw9.symm
          clear hw9
          go_wp2_with fail
          refine (refWithout_any _ d (-p) wr HU.out).mono ?_
          rintro e w3 ⟨v3, rfl, own3, bel3⟩
          have hl3 := wout_len (tid d) (-p)
          have hl3' := tid_len d
          have HO3 : Hid (Rd w3 v3 (wout (tid d) (-p)) ∧ Below wr.heap.size wr w3) := ⟨own3.rd (by omega), bel3⟩
          obtain ⟨a3, c3, e3⟩ := own_form own3
          subst e3
          clear own3 bel3
          go_wp2_with fail
          refine (refJoin_any _ _ q (wout (tid d) (-p)) w3 ((HR.out.1.below HXr.out.bel).below HO3.out.2) HO3.out.1).mono ?_
          rintro e w4 ⟨v4, rfl, own4, bel4⟩
          have hl4 := tid_len (q ++ wout (tid d) (-p))
          have HO4 : Hid (Rd w4 v4 (tid (q ++ wout (tid d) (-p))) ∧ Below wr.heap.size wr w4) := ⟨own4.rd (by omega), Below.step HO3.out.2 bel4⟩
          obtain ⟨a4, c4, e4⟩ := own_form own4
          subst e4
          have HX4 : Hid (Bx w v (.slice (some ⟨b2, o2, none⟩) css.length cc) css w4) := HXr.out.on HO4.out.2
          have f0 := HX4.out.c0
          have f1 := HX4.out.c1
          have hall : (tid (q ++ wout (tid d) (-p))).all fmd = true := by
            rw [List.all_eq_true]
            intro x hx
            exact (mem_tid.1 hx).2
          have HAll : Hid ((tid (q ++ wout (tid d) (-p))).all fmd = true) := hall
          clear own4 bel4 hall hl3 hl3' hl4
          generalize (wout (tid d) (-p)).length = l3 at *
          have HFol : Hid (Calls Tryd.prog 25 #[.agg #[.int .i64 v, .slice (some ⟨b2, o2, none⟩) css.length cc], .slice a4 (tid (q ++ wout (tid d) (-p))).length c4] w4 fun e w' => e = .returned (.bool (claB css (opp q ++ opp (rst d p)))) ∧ Below w4.heap.size w4 w') := by
            have h9 := rfol_any v _ _ css _ w4 HX4.out.rd HO4.out.1 HR.out.2.1 HR.out.2.2.1 HAll.out
            rw [HFd.out] at h9
            exact h9
          generalize (tid (q ++ wout (tid d) (-p))).length = l4 at *
          generalize hcb : claB css (opp q ++ opp (rst d p)) = cb at *
          have HCb : Hid (claB css (opp q ++ opp (rst d p)) = cb) := hcb
          clear hcb
          go_wp2_with fail
          refine HFol.out.mono ?_
          rintro e w5 ⟨rfl, bel5⟩
          have HB5 : Hid (Below wr.heap.size wr w5) := Below.step HO4.out.2 bel5
          clear bel5 HFol
          cases cb with
          | true =>
            have HF : Hid (parB css (opp q) p (css.take (k + 1)) = true) := by show _ = _; rw [HTk.out, HPar.out]; simp
            go_wp2
            go_roundg (gk - 1)
            case measure => have := HKk.out; have := HLT.out; omega
            case rel => exact ⟨k + 1, by have := HKk.out; have := HLT.out; omega, by go_num, HF.out, Below.step HBr.out HB5.out⟩
          | false =>
            have HF : Hid (parB css (opp q) p css = false) := HSt.out HM.out (by first | exact HCb.out | rfl)
            go_wp2
            go_ret
            exact ⟨congrArg (fun x => Ending.returned (.bool x)) (HE.out.trans HF.out).symm, Below.step HXr.out.bel HB5.out⟩
        · have hb : d.contains (-p) = false := by
            cases h9 : d.contains (-p)
            · rfl
            · exact absurd (List.contains_iff_mem.1 h9) hm
          rw [hb] at HHas0
          have HHas : Hid (Calls Tryd.prog 44 #[.slice ua d.length uc, .int .i64 (-p)] wr fun e w' => e = .returned (.bool false) ∧ w' = wr) := HHas0
          have HF : Hid (parB css (opp q) p (css.take (k + 1)) = true) := by rw [HTk.out, HPar.out, decide_eq_false hm]; rfl
          clear HHas0 hb hm
          go_wp2_with fail
          refine HHas.out.mono ?_
          rintro e w9 ⟨rfl, hw9⟩
          obtain rfl := hw9.symm
          clear hw9
          go_wp2
          go_roundg (gk - 1)
          case measure => have := HKk.out; have := HLT.out; omega
          case rel => exact ⟨k + 1, by have := HKk.out; have := HLT.out; omega, by go_num, HF.out, HBr.out⟩
      · have hke : k = css.length := by have := HKk.out; omega
        have HF : Hid (parB css (opp q) p css = true) := by
          have := HPar.out
          rw [hke, List.take_length] at this
          exact this
        clear hke
        go_wp2
        go_ret
        exact ⟨congrArg (fun x => Ending.returned (.bool x)) (HE.out.trans HF.out).symm, HXr.out.bel⟩
end Go.Proofs.YtkinilhapgagcaaDoor
