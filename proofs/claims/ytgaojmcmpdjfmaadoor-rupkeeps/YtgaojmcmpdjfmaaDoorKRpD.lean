/-
  rup: Blocked, the program's.
  KEEP: set on app at below new trans refl start ap kept rd rds mono lt add none own nil put len pos setF setV putL putR other neV same_any get at pos
-/
import Derived.Test.YtgaojmcmpdjfmaaDoorKRpB
import Derived.Test.YtgaojmcmpdjfmaaDoorJTidy
set_option linter.unusedSimpArgs false
set_option linter.unusedVariables false
namespace Go.Proofs.YtgaojmcmpdjfmaaDoor
open Go Go.RowKit

def shB (v : Int) (css : List (List Int)) (c : List Int) : Bool := frm v css && c.all fmd
def shBE (b : Bool) : Int := if b then 0 else 1
/-- a literal beside its opposite in the resolvent -/
def blk1 (p : Int) (c d : List Int) : Bool := adj (tid (wout (tid c) p ++ wout (tid d) (-p)))
/-- the clauses of ds that are partners give such resolvents alone -/
def blkA (p : Int) (c : List Int) (ds : List (List Int)) : Bool := ds.all fun d => !decide (-p ∈ d) || blk1 p c d
/-- is it blocked? -/
def blkB (css : List (List Int)) : List Int → Bool
  | [] => false
  | p :: r => blkA p (p :: r) css
theorem frm_fmd8 {v : Int} {css : List (List Int)} (h : frm v css = true) : ∀ c ∈ css, ∀ l ∈ c, fmd l = true := by
  intro c hc l hl
  unfold frm at h
  rw [Bool.and_eq_true] at h
  have h2 := List.all_eq_true.1 h.2 c hc
  unfold fitsP at h2
  have h3 := List.all_eq_true.1 h2 l hl
  rw [Bool.and_eq_true] at h3
  exact h3.1
theorem wout_fmd (zs : List Int) (l : Int) : (wout (tid zs) l).all fmd = true := by
  rw [List.all_eq_true]
  intro x hx
  unfold wout at hx
  exact (mem_tid.1 (List.mem_filter.1 hx).1).2
theorem blk1_or (p : Int) (c d : List Int) : blk1 p c d = (adj (tid (wout (tid c) p)) || (adj (tid (wout (tid d) (-p))) || opd (wout (tid c) p) (wout (tid d) (-p)))) := adj_or (wout_fmd _ _) (wout_fmd _ _)
/-- the partners' numbers -/
def bpN (css : List (List Int)) (l : Int) : List Nat := (List.range css.length).filter (fun i => fmd l && (css.getD i []).contains l)
theorem bpN_eq (n : Int) (css : List (List Int)) (l : Int) (h : frm n css = true) : ptnA n css l = (bpN css l).map (fun i : Nat => (i : Int)) := by
  unfold ptnA; rw [if_pos h]; rfl
theorem mem_bpN {css : List (List Int)} {l : Int} {i : Nat} : i ∈ bpN css l ↔ i < css.length ∧ fmd l = true ∧ l ∈ css.getD i [] := by
  unfold bpN
  rw [List.mem_filter, List.mem_range, Bool.and_eq_true, List.contains_iff_mem]
theorem bpN_len (css : List (List Int)) (l : Int) : (bpN css l).length ≤ css.length := by
  unfold bpN; exact Nat.le_trans (List.length_filter_le _ _) (by simp)
theorem getD_in8 {css : List (List Int)} {k : Nat} (h : k < css.length) : css.getD k [] ∈ css := by
  rw [List.getD_eq_getElem?_getD, List.getElem?_eq_getElem h]; exact List.getElem_mem h
theorem in_getD8 {css : List (List Int)} {c : List Int} (h : c ∈ css) : ∃ k, k < css.length ∧ css.getD k [] = c := by
  obtain ⟨k, hk, e⟩ := List.getElem_of_mem h
  exact ⟨k, hk, by rw [List.getD_eq_getElem?_getD, List.getElem?_eq_getElem hk]; exact e⟩
theorem blkA_yes {css : List (List Int)} {c : List Int} {p : Int} (hf : fmd p = true) (h : ∀ i ∈ bpN css (-p), blk1 p c (css.getD i []) = true) : blkA p c css = true := by
  unfold blkA
  rw [List.all_eq_true]
  intro d hd
  by_cases hm : -p ∈ d
  · obtain ⟨k, hk, e⟩ := in_getD8 hd
    have := h k (mem_bpN.2 ⟨hk, fmd_neg hf, by rw [e]; exact hm⟩)
    rw [e] at this
    rw [this]; simp
  · rw [decide_eq_false hm]; rfl
theorem blkA_no {css : List (List Int)} {c : List Int} {p : Int} {i : Nat} (hi : i ∈ bpN css (-p)) (h : blk1 p c (css.getD i []) = false) : blkA p c css = false := by
  obtain ⟨h1, h2, h3⟩ := mem_bpN.1 hi
  unfold blkA
  rw [List.all_eq_false]
  refine ⟨_, getD_in8 h1, ?_⟩
  rw [decide_eq_true h3, h]
  simp
theorem mem_take_moreM {c : List Nat} {j : Nat} (hj : j < c.length) {x : Nat} : x ∈ c.take (j + 1) ↔ x ∈ c.take j ∨ x = c.getD j 0 := by
  rw [List.take_succ_eq_append_getElem hj, List.mem_append, List.mem_singleton, List.getD_eq_getElem?_getD, List.getElem?_eq_getElem hj]; rfl
theorem two_sameB {a b : Value} {a' b' : Value} (h1 : a = a') (h2 : b = b') : Ending.returned (.tuple #[a, b]) = .returned (.tuple #[a', b']) := by rw [h1, h2]
set_option maxRecDepth 100000 in
set_option maxHeartbeats 3200000 in
theorem blocked_any (v : Int) (s vc : Value) (css : List (List Int)) (c : List Int) (w : World) (hr : Rds w s css) (hc : Rd w vc c) :
    Calls Tryd.prog 22 #[.agg #[.int .i64 v, s], vc] w fun e w' => e = .returned (.tuple #[.bool (shB v css c && blkB css c), .int .i64 (shBE (shB v css c))]) ∧ Below w.heap.size w w' := by
  have HX : Hid (Bx w v s css (w.alloc (.cells #[.int .i64 v, s] 24))) := Bx.new hr _
  have HR : Hid (Rd w vc c) := hc
  have hlr := hr.len
  have hlc := hc.len
  obtain ⟨ac, cc, rfl, -, -, -⟩ := hr.form
  obtain ⟨av, cv, rfl, -, -, hcell⟩ := hc.form
  have HSv : Hid (shB v css c = (frm v css && c.all fmd)) := rfl
  have HC0 : Hid (∀ W, Below w.heap.size w W → 0 < c.length → ∃ bb off, av = some ⟨bb, off, none⟩ ∧ W.cell? ⟨bb, off, none⟩ = some (.int .i64 (c.getD 0 0))) := fun W hW h0 => by
    obtain ⟨bb, off, e, hc⟩ := hcell 0 h0
    exact ⟨bb, off, e, (hW.cell (p := ⟨bb, off + 0, none⟩) (World.block_lt_of_cell? w _ hc)).trans hc⟩
  clear hr hc hcell
  go_enter Tryd.func22, Tryd.ntmps22
  go_wp2_with fail
  refine (cnfFormed_any v _ css _ HX.out.rd).mono ?_
  rintro e w1 ⟨rfl, bel1⟩
  have HX1 : Hid (Bx w v (.slice ac css.length cc) css w1) := HX.out.on bel1
  have c0 := HX1.out.c0
  have c1 := HX1.out.c1
  clear bel1 HX
  cases hf : frm v css
  · have HS : Hid (shB v css c = false) := by show _ = _; rw [HSv.out, hf]; rfl
    clear hf
    go_wp2
    go_ret2
    exact ⟨two_sameB (congrArg Value.bool (by rw [HS.out]; rfl)) (congrArg (fun b => Value.int .i64 (shBE b)) HS.out.symm), HX1.out.bel⟩
  have HFr : Hid (frm v css = true) := hf
  have HSd : Hid (Calls Tryd.prog 28 #[.slice av c.length cv] w1 fun e w' => e = .returned (.bool (c.all fmd)) ∧ w' = w1) := sound_any _ c w1 (HR.out.below HX1.out.bel)
  cases hs : c.all fmd
  · have HS : Hid (shB v css c = false) := by show _ = _; rw [HSv.out, hf, hs]; rfl
    rw [hs] at HSd
    clear hf hs
    go_wp2_with fail
    refine HSd.out.mono ?_
    rintro e w9 ⟨rfl, hw9⟩
    obtain rfl := hw9.symm
    clear hw9
    go_wp2
    go_ret2
    exact ⟨two_sameB (congrArg Value.bool (by rw [HS.out]; rfl)) (congrArg (fun b => Value.int .i64 (shBE b)) HS.out.symm), HX1.out.bel⟩
  have HS : Hid (shB v css c = true) := by show _ = _; rw [HSv.out, hf, hs]; rfl
  have HAl : Hid (c.all fmd = true) := hs
  rw [hs] at HSd
  clear hf hs
  cases c with
  | nil =>
    go_wp2_with fail
    refine HSd.out.mono ?_
    rintro e w9 ⟨rfl, hw9⟩
    obtain rfl := hw9.symm
    clear hw9
    go_wp2
    go_ret2
    exact ⟨two_sameB (congrArg Value.bool (by rw [HS.out]; rfl)) (congrArg (fun b => Value.int .i64 (shBE b)) HS.out.symm), HX1.out.bel⟩
  | cons p r =>
    have hpos : 0 < (p :: r).length := by simp
    have hp1 : (((p :: r).length : Int) == 0) = false := beq_eq_false_iff_ne.2 (by have := hpos; omega)
    obtain ⟨bb, off, rfl, k0⟩ := HC0.out w1 HX1.out.bel hpos
    have hpf : fmd p = true := by have := HAl.out; rw [List.all_cons, Bool.and_eq_true] at this; exact this.1
    have hpr := fmd_range hpf
    have hwp : IntKind.i64.wrap (-p) = -p := by rw [IntKind.wrap_i64]; omega
    have HNg : Hid (ngw p = -p) := ngw_fmd hpf
    have k0 : w1.cell? ⟨bb, off, none⟩ = some (.int .i64 p) := k0
    have HE : Hid (blkB css (p :: r) = blkA p (p :: r) css) := rfl
    have HOr : Hid (∀ d, blk1 p (p :: r) d = (adj (tid (wout (tid (p :: r)) p)) || (adj (tid (wout (tid d) (-p))) || opd (wout (tid (p :: r)) p) (wout (tid d) (-p))))) := fun d => blk1_or p (p :: r) d
    have HRi : Hid (Rises (wout (tid (p :: r)) p)) := wout_rises (tid_rises _) p
    have hrl := wout_len (tid (p :: r)) p
    have hrl2 := tid_len (p :: r)
    have HWo : Hid (∀ W, Below w.heap.size w W → Calls Tryd.prog 29 #[.slice (some ⟨bb, off, none⟩) (p :: r).length cv, .int .i64 p] W fun e w' => ∃ v', e = .returned v' ∧ Own W.heap.size w' v' (wout (tid (p :: r)) p) ∧ Below W.heap.size W w') := fun W hW => without_any _ (p :: r) p W (HR.out.below hW)
    generalize hq : p :: r = q at *
    have HPQ : Hid (p :: r = q) := hq
    clear hq HC0
    generalize hrest : wout (tid q) p = rest at *
    clear hrest
    go_wp2_with fail
    refine HSd.out.mono ?_
    rintro e w9 ⟨rfl, hw9⟩
    obtain rfl := hw9.symm
    clear hw9
    go_wp2_with fail
    refine (HWo.out _ HX1.out.bel).mono ?_
    rintro e w2 ⟨v2, rfl, own2, bel2⟩
    have HX2 : Hid (Bx w v (.slice ac css.length cc) css w2) := HX1.out.on bel2
    have HO2 : Hid (Own 0 w2 v2 rest) := own2.mono (Nat.zero_le _)
    obtain ⟨a2, c2, e2⟩ := own_form own2
    subst e2
    have d0 := HX2.out.c0
    have d1 := HX2.out.c1
    clear own2 bel2 c0 c1 k0 HWo
    go_wp2_with fail
    refine (taut_any _ rest w2 (HO2.out.rd (by omega))).mono ?_
    rintro e w3 ⟨rfl, bel3⟩
    have HX3 : Hid (Bx w v (.slice ac css.length cc) css w3) := HX2.out.on bel3
    have HO3 : Hid (Own 0 w3 (.slice a2 rest.length c2) rest) := HO2.out.below bel3
    have f0 := HX3.out.c0
    have f1 := HX3.out.c1
    clear bel3 d0 d1
    cases hta : adj (tid rest)
    · have HTa : Hid (∀ d, blk1 p q d = (adj (tid (wout (tid d) (-p))) || opd rest (wout (tid d) (-p)))) := fun d => by rw [HOr.out d, hta]; rfl
      clear hta HOr
      go_wp2_with fail
      refine (partners_any v _ css p w3 HX3.out.rd).mono ?_
      rintro e w4 ⟨vp, rfl, own4, bel4⟩
      rw [HNg.out, bpN_eq v css (-p) HFr.out] at own4
      have HX4 : Hid (Bx w v (.slice ac css.length cc) css w4) := HX3.out.on bel4
      have HO4 : Hid (Own 0 w4 (.slice a2 rest.length c2) rest) := HO3.out.below bel4
      have hlp := bpN_len css (-p)
      have HP : Hid (Rd w4 vp ((bpN css (-p)).map (fun i : Nat => (i : Int)))) := own4.rd (by rw [List.length_map]; omega)
      obtain ⟨ap, cp, ep, g1, g2, hcellp⟩ := HP.out.form
      rw [List.length_map] at ep
      have HC : Hid (∀ (W : World) (j : Nat), Below w4.heap.size w4 W → j < (bpN css (-p)).length → ∃ b9 o9, ap = some ⟨b9, o9, none⟩ ∧ W.cell? ⟨b9, o9 + j, none⟩ = some (.int .i64 ((bpN css (-p)).getD j 0 : Int))) := fun W j hW hj => by
        obtain ⟨b9, o9, e, hc⟩ := hcellp j (by rw [List.length_map]; exact hj)
        refine ⟨b9, o9, e, ((hW.cell (p := ⟨b9, o9 + j, none⟩) (World.block_lt_of_cell? w4 _ hc)).trans hc).trans ?_⟩
        rw [List.getD_eq_getElem?_getD, List.getElem?_map, List.getElem?_eq_getElem hj, List.getD_eq_getElem?_getD, List.getElem?_eq_getElem hj]; rfl
      have HPm : Hid (∀ j, j < (bpN css (-p)).length → (bpN css (-p)).getD j 0 ∈ bpN css (-p)) := fun j hj => by
        rw [List.getD_eq_getElem?_getD, List.getElem?_eq_getElem hj]; exact List.getElem_mem hj
      clear own4 bel4 hcellp f0 f1
      subst ep
      generalize hpl : bpN css (-p) = pl at *
      have HPl : Hid (bpN css (-p) = pl) := hpl
      clear hpl
      go_wp2
      go_loopg [34] pl.length (fun g j' wr => ∃ j : Nat, j + g = pl.length ∧ j' = .int .i64 j ∧ Below w4.heap.size w4 wr ∧ ∀ i ∈ pl.take j, blk1 p q (css.getD i []) = true)
      case atStart => exact ⟨0, by omega, rfl, Below.refl _ _, by simp⟩
      case round =>
        obtain ⟨j, hj, rfl, hbel, hall⟩ := hrel
        have HJ : Hid (j + gk = pl.length) := hj
        have HM : Hid (Below w4.heap.size w4 wr ∧ ∀ i ∈ pl.take j, blk1 p q (css.getD i []) = true) := ⟨hbel, hall⟩
        have HXr : Hid (Bx w v (.slice ac css.length cc) css wr) := HX4.out.on hbel
        have f0 := HXr.out.c0
        have f1 := HXr.out.c1
        clear hj hbel hall
        by_cases hlt : j < pl.length
        · obtain ⟨b9, o9, rfl, k1⟩ := HC.out wr j HM.out.1 hlt
          have hmem := HPm.out j hlt
          have HTk : Hid (∀ x, x ∈ pl.take (j + 1) ↔ x ∈ pl.take j ∨ x = pl.getD j 0) := fun x => mem_take_moreM hlt
          have HLT : Hid (j < pl.length) := hlt
          generalize pl.getD j 0 = i at *
          have HMem : Hid (i ∈ bpN css (-p)) := by rw [HPl.out]; exact hmem
          have hic := (mem_bpN.1 HMem.out).1
          obtain ⟨b8, o8, u, rfl, kc, hu⟩ := HXr.out.at hic
          obtain ⟨ua, uc, rfl, -, -, -⟩ := hu.form
          have HWd : Hid (Calls Tryd.prog 29 #[.slice ua (css.getD i []).length uc, .int .i64 (-p)] wr fun e w' => ∃ v', e = .returned v' ∧ Own wr.heap.size w' v' (wout (tid (css.getD i [])) (-p)) ∧ Below wr.heap.size wr w') := without_any _ (css.getD i []) (-p) wr hu
          have HBk : Hid (blk1 p q (css.getD i []) = (adj (tid (wout (tid (css.getD i [])) (-p))) || opd rest (wout (tid (css.getD i [])) (-p)))) := HTa.out _
          have HNo : Hid (blk1 p q (css.getD i []) = false → blkA p q css = false) := fun h => blkA_no HMem.out h
          have hdl := wout_len (tid (css.getD i [])) (-p)
          have hdl2 := tid_len (css.getD i [])
          have HDf : Hid (∀ l ∈ wout (tid (css.getD i [])) (-p), fmd l = true) := List.all_eq_true.1 (wout_fmd _ _)
          clear hu hmem
          generalize (css.getD i []).length = il at *
          generalize hdd : wout (tid (css.getD i [])) (-p) = dd at *
          clear hdd hdl2
          have hddl : dd.length ≤ 2097152 := by first | omega | (have := tid_len (css.getD i []); omega)
          go_wp2_with fail
          refine HWd.out.mono ?_
          rintro e w5 ⟨v5, rfl, own5, bel5⟩
          have HO5 : Hid (Rd w5 v5 dd ∧ Below wr.heap.size wr w5) := ⟨own5.rd (by omega), bel5⟩
          obtain ⟨a5, c5, e5⟩ := own_form own5
          subst e5
          clear own5 bel5 HWd f0 f1 k1 kc
          go_wp2_with fail
          refine (taut_any _ dd w5 HO5.out.1).mono ?_
          rintro e w6 ⟨rfl, bel6⟩
          have HO6 : Hid (Rd w6 (.slice a5 dd.length c5) dd ∧ Below wr.heap.size wr w6) := ⟨HO5.out.1.below bel6, Below.step HO5.out.2 bel6⟩
          clear bel6
          cases htd : adj (tid dd)
          · have HOp : Hid (Calls Tryd.prog 31 #[.slice a2 rest.length c2, .slice a5 dd.length c5] w6 fun e w' => e = .returned (.bool (opd rest dd)) ∧ Below w6.heap.size w6 w') := opposed_any _ _ rest dd w6 ((HO4.out.below HM.out.1).below HO6.out.2) HRi.out HO6.out.1 HDf.out
            cases hod : opd rest dd
            · have HF : Hid (blkA p q css = false) := HNo.out (by rw [HBk.out, htd, hod]; rfl)
              rw [hod] at HOp
              clear htd hod
              go_wp2_with fail
              refine HOp.out.mono ?_
              rintro e w7 ⟨rfl, bel7⟩
              have HB7 : Hid (Below w.heap.size w w7) := Below.step (Below.step HXr.out.bel HO6.out.2) bel7
              clear bel7 HOp
              go_wp2
              go_ret2
              exact ⟨two_sameB (congrArg Value.bool (by first | (rw [HPQ.out, HS.out, HE.out, HF.out]; rfl) | (rw [HS.out, HE.out, HF.out]; rfl))) (show Value.int .i64 (shBE true) = Value.int .i64 (shBE (shB v css (p :: r))) by rw [HPQ.out, HS.out]), HB7.out⟩
            · have HF : Hid (blk1 p q (css.getD i []) = true) := by show _ = _; rw [HBk.out, htd, hod]; rfl
              rw [hod] at HOp
              clear htd hod
              go_wp2_with fail
              refine HOp.out.mono ?_
              rintro e w7 ⟨rfl, bel7⟩
              have HB7 : Hid (Below w4.heap.size w4 w7) := Below.step (Below.step HM.out.1 HO6.out.2) bel7
              clear bel7 HOp
              go_wp2
              go_roundg (gk - 1)
              case measure => have := HJ.out; have := HLT.out; omega
              case rel => exact ⟨j + 1, by have := HJ.out; have := HLT.out; omega, by go_num, HB7.out, fun x hx => ((HTk.out x).1 hx).elim (HM.out.2 x) (fun e => by rw [e]; exact HF.out)⟩
          · have HF : Hid (blk1 p q (css.getD i []) = true) := by show _ = _; rw [HBk.out, htd]; rfl
            have HB7 : Hid (Below w4.heap.size w4 w6) := Below.step HM.out.1 HO6.out.2
            clear htd
            go_wp2
            go_roundg (gk - 1)
            case measure => have := HJ.out; have := HLT.out; omega
            case rel => exact ⟨j + 1, by have := HJ.out; have := HLT.out; omega, by go_num, HB7.out, fun x hx => ((HTk.out x).1 hx).elim (HM.out.2 x) (fun e => by rw [e]; exact HF.out)⟩
        · have hje : j = pl.length := by have := HJ.out; omega
          have HF : Hid (blkA p q css = true) := blkA_yes hpf (by
            have h9 := HM.out.2
            rw [hje, List.take_length] at h9
            rw [HPl.out]
            exact h9)
          clear hje
          go_wp2
          go_ret2
          exact ⟨two_sameB (congrArg Value.bool (by first | (rw [HPQ.out, HS.out, HE.out, HF.out]; rfl) | (rw [HS.out, HE.out, HF.out]; rfl))) (show Value.int .i64 (shBE true) = Value.int .i64 (shBE (shB v css (p :: r))) by rw [HPQ.out, HS.out]), HXr.out.bel⟩
    · have HF : Hid (blkA p q css = true) := blkA_yes hpf fun i _ => by rw [HOr.out, hta]; rfl
      clear hta
      go_wp2
      go_ret2
      exact ⟨two_sameB (congrArg Value.bool (by first | (rw [HPQ.out, HS.out, HE.out, HF.out]; rfl) | (rw [HS.out, HE.out, HF.out]; rfl))) (show Value.int .i64 (shBE true) = Value.int .i64 (shBE (shB v css (p :: r))) by rw [HPQ.out, HS.out]), HX3.out.bel⟩
end Go.Proofs.YtgaojmcmpdjfmaaDoor
