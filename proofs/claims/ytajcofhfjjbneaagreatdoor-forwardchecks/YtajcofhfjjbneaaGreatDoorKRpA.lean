/-
  rup: allFollow.
  KEEP: set on app at below new trans refl start ap kept rd rds mono lt add none own nil put len pos setF setV putL putR other neV same_any num form fin
-/
import Derived.Test.YtajcofhfjjbneaaGreatDoorKOnD
import Derived.Test.YtajcofhfjjbneaaGreatDoorJUnS
import Derived.Test.YtajcofhfjjbneaaGreatDoorJTidy
set_option linter.unusedSimpArgs false
set_option linter.unusedVariables false
namespace Go.Proofs.YtajcofhfjjbneaaGreatDoor
open Go Go.RowKit

/-- the partners' numbers -/
def ptnN (css : List (List Int)) (l : Int) : List Nat := (List.range css.length).filter (fun i => fmd l && (css.getD i []).contains l)
theorem ptnN_eq (n : Int) (css : List (List Int)) (l : Int) (h : frm n css = true) : ptnA n css l = (ptnN css l).map (fun i : Nat => (i : Int)) := by
  unfold ptnA; rw [if_pos h]; rfl
theorem mem_ptnN {css : List (List Int)} {l : Int} {i : Nat} : i ∈ ptnN css l ↔ i < css.length ∧ fmd l = true ∧ l ∈ css.getD i [] := by
  unfold ptnN
  rw [List.mem_filter, List.mem_range, Bool.and_eq_true, List.contains_iff_mem]
theorem Gs_rst (d : List Int) (p : Int) : Gs d (-p) = opp (rst d p) := rfl
theorem parB_yes {css : List (List Int)} {K : List Int} {p : Int} (hf : fmd p = true) (h : ∀ i ∈ ptnN css (-p), claB css (K ++ Gs (css.getD i []) (-p)) = true) : parB css K p css = true := by
  unfold parB
  rw [List.all_eq_true]
  intro d hd
  by_cases hm : -p ∈ d
  · obtain ⟨k, hk, e⟩ := in_getD hd
    have := h k (mem_ptnN.2 ⟨hk, fmd_neg hf, by rw [e]; exact hm⟩)
    rw [e, Gs_rst] at this
    rw [this]; simp
  · rw [decide_eq_false hm]; rfl
theorem parB_no {css : List (List Int)} {K : List Int} {p : Int} {i : Nat} (hi : i ∈ ptnN css (-p)) (h : claB css (K ++ Gs (css.getD i []) (-p)) = false) : parB css K p css = false := by
  obtain ⟨h1, h2, h3⟩ := mem_ptnN.1 hi
  unfold parB
  rw [List.all_eq_false]
  refine ⟨_, getD_in h1, ?_⟩
  rw [Gs_rst] at h
  rw [decide_eq_true h3, h]
  simp
theorem mem_take_moreN {c : List Nat} {j : Nat} (hj : j < c.length) {x : Nat} : x ∈ c.take (j + 1) ↔ x ∈ c.take j ∨ x = c.getD j 0 := by
  rw [List.take_succ_eq_append_getElem hj, List.mem_append, List.mem_singleton, List.getD_eq_getElem?_getD, List.getElem?_eq_getElem hj]; rfl
theorem ptnN_len (css : List (List Int)) (l : Int) : (ptnN css l).length ≤ css.length := by
  unfold ptnN; exact Nat.le_trans (List.length_filter_le _ _) (by simp)

set_option maxRecDepth 100000 in
set_option maxHeartbeats 3200000 in
theorem allFollow_any (v p : Int) (s vk : Value) (css : List (List Int)) (K : List Int) (w : World) (hr : Rds w s css) (hk : Rd w vk K) (hw : Few css) (hfr : frm v css = true) (hKf : ∀ x ∈ K, fmd x = true) (hc : Con K) (hcalm : Calm css K) (hp : fmd p = true) :
    Calls Tryz.prog 73 #[.agg #[.int .i64 v, s], .int .i64 p, vk] w fun e w' => e = .returned (.bool (parB css K p css)) ∧ Below w.heap.size w w' := by
  have HX : Hid (Bx w v s css (w.alloc (.cells #[.int .i64 v, s] 24))) := Bx.new hr _
  have HR : Hid (Rd w vk K ∧ Few css ∧ frm v css = true ∧ (∀ x ∈ K, fmd x = true) ∧ Con K ∧ Calm css K ∧ fmd p = true) := ⟨hk, hw, hfr, hKf, hc, hcalm, hp⟩
  have hN := hw.num
  have hpr := fmd_range hp
  have hwp : IntKind.i64.wrap (-p) = -p := by rw [IntKind.wrap_i64]; omega
  have HNg : Hid (ngw p = -p) := ngw_fmd hp
  obtain ⟨ac, cc, rfl, h1, h2, -⟩ := hr.form
  obtain ⟨akk, ckk, rfl, hk1, hk2, -⟩ := hk.form
  clear hr hk hw hfr hKf hc hcalm hp
  go_enter Tryz.func73, Tryz.ntmps73
  go_wp2_with fail
  refine (partners_any v _ css p _ HX.out.rd).mono ?_
  rintro e w1 ⟨vp, rfl, own1, bel1⟩
  rw [HNg.out, ptnN_eq v css (-p) HR.out.2.2.1] at own1
  have HX1 : Hid (Bx w v (.slice ac css.length cc) css w1) := HX.out.on bel1
  have hlp := ptnN_len css (-p)
  have HP : Hid (Rd w1 vp ((ptnN css (-p)).map (fun i : Nat => (i : Int)))) := own1.rd (by rw [List.length_map]; omega)
  obtain ⟨ap, cp, ep, g1, g2, hcell⟩ := HP.out.form
  rw [List.length_map] at ep
  have HC : Hid (∀ (W : World) (j : Nat), Below w1.heap.size w1 W → j < (ptnN css (-p)).length → ∃ bb off, ap = some ⟨bb, off, none⟩ ∧ W.cell? ⟨bb, off + j, none⟩ = some (.int .i64 ((ptnN css (-p)).getD j 0 : Int))) := fun W j hW hj => by
    obtain ⟨bb, off, e, hc⟩ := hcell j (by rw [List.length_map]; exact hj)
    refine ⟨bb, off, e, ((hW.cell (p := ⟨bb, off + j, none⟩) (World.block_lt_of_cell? w1 _ hc)).trans hc).trans ?_⟩
    rw [List.getD_eq_getElem?_getD, List.getElem?_map, List.getElem?_eq_getElem hj, List.getD_eq_getElem?_getD, List.getElem?_eq_getElem hj]; rfl
  have HPm : Hid (∀ j, j < (ptnN css (-p)).length → (ptnN css (-p)).getD j 0 ∈ ptnN css (-p)) := fun j hj => by
    rw [List.getD_eq_getElem?_getD, List.getElem?_eq_getElem hj]; exact List.getElem_mem hj
  have c0 := HX1.out.c0
  have c1 := HX1.out.c1
  clear own1 bel1 HX hcell
  subst ep
  have HPe : Hid (ptnN css (-p) = ptnN css (-p)) := rfl
  generalize hpl : ptnN css (-p) = pl at *
  have HPl : Hid (ptnN css (-p) = pl) := hpl
  clear hpl HPe
  by_cases hz : pl.length = 0
  · have HF : Hid (parB css K p css = true) := parB_yes HR.out.2.2.2.2.2.2 (by rw [HPl.out, List.length_eq_zero_iff.1 hz]; simp)
    have hz2 : decide ((pl.length : Int) = 0) = true := decide_eq_true (by omega)
    go_wp2
    go_ret
    exact ⟨(congrArg (fun x => Ending.returned (.bool x)) HF.out).symm, HX1.out.bel⟩
  · have hz3 : ¬ ((pl.length : Int) = 0) := by omega
    go_wp2_with fail
    refine (oLead_any v _ _ css K w1 HX1.out.rd (HR.out.1.below HX1.out.bel) HR.out.2.1 (frm_fmd HR.out.2.2.1) HR.out.2.2.2.1).mono ?_
    rintro e w2 ⟨b, sy, rfl, how, hsC⟩
    have HO : Hid (Ow w1 w2 b sy (2 * (grt css).toNat) css K [] [] ∧ sy.C = .slice ac css.length cc) := ⟨how, hsC⟩
    clear how hsC c0 c1
    go_wp2
    go_loopg [22] pl.length (fun g j' wr => ∃ (j : Nat) (sv : Sy), j + g = pl.length ∧ j' = .int .i64 j ∧ Ow w1 wr b sv (2 * (grt css).toNat) css K [] [] ∧ sv.C = .slice ac css.length cc ∧ ∀ i ∈ pl.take j, claB css (K ++ Gs (css.getD i []) (-p)) = true)
    case atStart => exact ⟨0, sy, by omega, rfl, HO.out.1, HO.out.2, by simp⟩
    case round =>
      obtain ⟨j, sv, hj, rfl, how, hsC, hall⟩ := hrel
      have HJ : Hid (j + gk = pl.length) := hj
      have HM : Hid (Ow w1 wr b sv (2 * (grt css).toNat) css K [] [] ∧ sv.C = .slice ac css.length cc ∧ ∀ i ∈ pl.take j, claB css (K ++ Gs (css.getD i []) (-p)) = true) := ⟨how, hsC, hall⟩
      have HXr : Hid (Bx w v (.slice ac css.length cc) css wr) := HX1.out.on how.bel
      have c0 := HXr.out.c0
      have c1 := HXr.out.c1
      clear hj how hsC hall
      by_cases hlt : j < pl.length
      · obtain ⟨bb, off, rfl, k1⟩ := HC.out wr j HM.out.1.bel hlt
        have hmem := HPm.out j hlt
        have HTk : Hid (∀ x, x ∈ pl.take (j + 1) ↔ x ∈ pl.take j ∨ x = pl.getD j 0) := fun x => mem_take_moreN hlt
        have HLT : Hid (j < pl.length) := hlt
        generalize pl.getD j 0 = i at *
        have HMem : Hid (i ∈ ptnN css (-p)) := by rw [HPl.out]; exact hmem
        have hic := (mem_ptnN.1 HMem.out).1
        obtain ⟨b2, o2, u, ea, kc, -⟩ := HXr.out.at hic
        obtain ⟨b3, o3, u3, ea3, kc3, hrd3⟩ := HX1.out.at hic
        subst ea
        injection ea3 with ea3
        injection ea3 with e31 e32
        subst e31; subst e32
        have eu : u = u3 := by
          have h9 := (HM.out.1.bel.cell (p := ⟨b2, o2 + i, none⟩) (World.block_lt_of_cell? w1 _ kc3)).trans kc3
          rw [kc] at h9
          injection h9
        subst eu
        have HCl : Hid (Calls Tryz.prog 86 #[.pointer (some ⟨b, 0, none⟩), u, .int .i64 (-p)] wr fun e w' => e = .returned (.bool (claB css (K ++ Gs (css.getD i []) (-p)))) ∧ Cl8 w1 wr w' b sv (2 * (grt css).toNat) css K) := oClashes_any w1 b sv _ css K u (css.getD i []) (-p) wr HM.out.1 (by rw [HM.out.2.1]; exact HX1.out.rd) hrd3 (getD_in hic) HR.out.2.2.2.2.1 HR.out.2.2.2.2.2.1
        obtain ⟨ua, uc, eu, -⟩ := hrd3.form
        have HNo : Hid (claB css (K ++ Gs (css.getD i []) (-p)) = false → parB css K p css = false) := fun h => parB_no HMem.out h
        clear hrd3 kc3 hmem
        generalize hcb : claB css (K ++ Gs (css.getD i []) (-p)) = cb at *
        have HCb : Hid (claB css (K ++ Gs (css.getD i []) (-p)) = cb) := hcb
        clear hcb
        subst eu
        generalize (css.getD i []).length = cl at *
        go_wp2_with fail
        refine HCl.out.mono ?_
        rintro e w3 ⟨rfl, sv2, how2, hC2, -⟩
        have HO2 : Hid (Ow w1 w3 b sv2 (2 * (grt css).toNat) css K [] [] ∧ sv2.C = .slice (some ⟨b2, o2, none⟩) css.length cc) := ⟨how2, hC2.trans HM.out.2.1⟩
        clear how2 hC2 HCl
        cases cb
        · have HF : Hid (parB css K p css = false) := HNo.out (by first | exact HCb.out | rfl)
          go_wp2
          go_ret
          exact ⟨(congrArg (fun x => Ending.returned (.bool x)) HF.out).symm, Below.step HX1.out.bel HO2.out.1.bel⟩
        · go_wp2
          go_roundg (gk - 1)
          case measure => have := HJ.out; have := HLT.out; omega
          case rel => exact ⟨j + 1, sv2, by have := HJ.out; have := HLT.out; omega, by go_num, HO2.out.1, HO2.out.2, fun x hx => ((HTk.out x).1 hx).elim (HM.out.2.2 x) (fun e => by rw [e]; exact HCb.out)⟩
      · have hje : j = pl.length := by have := HJ.out; omega
        have HF : Hid (parB css K p css = true) := parB_yes HR.out.2.2.2.2.2.2 (by
          have h9 := HM.out.2.2
          rw [hje, List.take_length] at h9
          rw [HPl.out]
          exact h9)
        clear hje
        go_wp2
        go_ret
        exact ⟨(congrArg (fun x => Ending.returned (.bool x)) HF.out).symm, Below.step HX1.out.bel HM.out.1.bel⟩
end Go.Proofs.YtajcofhfjjbneaaGreatDoor
