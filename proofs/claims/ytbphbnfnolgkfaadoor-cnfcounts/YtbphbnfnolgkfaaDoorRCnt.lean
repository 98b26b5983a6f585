/-
  depotref02.Count, Entails, walked.
-/
import Derived.Test.YtbphbnfnolgkfaaDoorRMod
import Derived.Test.YtbphbnfnolgkfaaDoorEntW
set_option linter.unusedSimpArgs false
set_option linter.unusedVariables false
namespace Go.Proofs.YtbphbnfnolgkfaaDoor
open Go Go.RowKit

theorem ownm_form {base : Nat} {w : World} {v : Value} {L : List Itb} (h : OwnM base w v L) : ∃ a c, v = .slice a L.length c := by
  rcases h.row.2 with ⟨hv, hn⟩ | ⟨g, cap, cur, hv, _⟩
  · exact ⟨none, 0, by rw [hv, hn]⟩
  · exact ⟨_, _, hv⟩
theorem OwnM.at {base : Nat} {w : World} {a : Option Addr} {c : Nat} {L : List Itb} (h : OwnM base w (.slice a L.length c) L) {k : Nat} (hk : k < L.length) :
    ∃ g x, a = some ⟨g, 0, none⟩ ∧ L[k]? = some x ∧ w.cell? ⟨g, k, none⟩ = some x.1 ∧ OwnB base w x.1 x.2 := by
  rcases h.row.2 with ⟨_, h0⟩ | ⟨g, cap, cur, e, _⟩
  · omega
  · injection e with e1 e2 e3
    subst e1
    have hx : L[k]? = some L[k] := List.getElem?_eq_getElem hk
    refine ⟨g, L[k], rfl, hx, ?_, h.each _ (List.getElem_mem hk)⟩
    rw [World.ownsRow.cellAt h.row k (by omega)]
    simp [hk]

set_option maxRecDepth 100000 in
set_option maxHeartbeats 1600000 in
theorem rCount_any (n : Int) (s : Value) (css : List (List Int)) (w : World) (hr : Rds w s css) :
    Calls Tryd.prog 15 #[.agg #[.int .i64 n, s]] w fun e w' => e = .returned (.tuple #[.int .i64 (modF n css).length, .int .i64 (cntE n css)]) ∧ Below w.heap.size w w' := by
  have HX : Hid (Bx w n s css (w.alloc (.cells #[.int .i64 n, s] 24))) := Bx.new hr _
  obtain ⟨a, c, rfl, hc, hm, _⟩ := hr.form
  clear hr
  cases hf : frm n css
  · have HR : Hid (modF n css = [] ∧ cntE n css = 1) := by unfold modF cntE Hid; rw [hf]; exact ⟨rfl, rfl⟩
    go_enter Tryd.func15, Tryd.ntmps15
    go_wp2_with fail
    refine (rFormed_any n _ css _ HX.out.rd).mono ?_
    rw [hf]
    rintro e w1 ⟨rfl, bel1⟩
    have HX1 : Hid (Bx w n (.slice a css.length c) css w1) := HX.out.on bel1
    go_wp2
    go_returns
    rw [HR.out.1, HR.out.2]
    exact ⟨rfl, HX1.out.bel⟩
  cases h16 : decide (16 < n)
  case true =>
    have HR : Hid (modF n css = [] ∧ cntE n css = 4) := by
      have h : 16 < n := of_decide_eq_true h16
      unfold modF cntE Hid; rw [hf, decide_eq_false (by omega : ¬ n ≤ 16), if_pos h]; exact ⟨rfl, rfl⟩
    go_enter Tryd.func15, Tryd.ntmps15
    go_wp2_with fail
    refine (rFormed_any n _ css _ HX.out.rd).mono ?_
    rw [hf]
    rintro e w1 ⟨rfl, bel1⟩
    have HX1 : Hid (Bx w n (.slice a css.length c) css w1) := HX.out.on bel1
    have c0 := HX1.out.c0
    go_wp2
    go_returns
    rw [HR.out.1, HR.out.2]
    exact ⟨rfl, HX1.out.bel⟩
  have HE : Hid (cntE n css = 0) := by
    have h : ¬ 16 < n := of_decide_eq_false h16
    unfold cntE Hid; rw [hf, if_neg h]; rfl
  go_enter Tryd.func15, Tryd.ntmps15
  go_wp2_with fail
  refine (rFormed_any n _ css _ HX.out.rd).mono ?_
  rw [hf]
  rintro e w1 ⟨rfl, bel1⟩
  have HX1 : Hid (Bx w n (.slice a css.length c) css w1) := HX.out.on bel1
  have c0 := HX1.out.c0
  have c1 := HX1.out.c1
  go_wp2_with fail
  refine (rModels_any n _ css _ HX1.out.rd).mono ?_
  rintro e w2 ⟨u, L, rfl, own2, hL, bel2⟩
  obtain ⟨au, cu, rfl⟩ := ownm_form own2
  have HLn : Hid (L.length = (modF n css).length) := by show _ = _; rw [← hL]; simp
  have HB2 : Hid (Below w.heap.size w w2) := (HX1.out.on bel2).bel
  clear own2 hL c0 c1
  go_wp2
  go_returns
  rw [HLn.out, HE.out]
  exact ⟨rfl, HB2.out⟩

set_option maxRecDepth 100000 in
set_option maxHeartbeats 1600000 in
theorem rEntails_any (n : Int) (s vc : Value) (css : List (List Int)) (zs : List Int) (w : World) (hr : Rds w s css) (hz : Rd w vc zs) :
    Calls Tryd.prog 17 #[.agg #[.int .i64 n, s], vc] w fun e w' => e = .returned (.tuple #[.bool (entB n css zs), .int .i64 (entE n css zs)]) ∧ Below w.heap.size w w' := by
  have HX : Hid (Bx w n s css (w.alloc (.cells #[.int .i64 n, s] 24))) := Bx.new hr _
  have HZ : Hid (Rd (w.alloc (.cells #[.int .i64 n, s] 24)) vc zs) := hz.below (below_box _ _)
  obtain ⟨a, c, rfl, hc, hm, _⟩ := hr.form
  obtain ⟨az, cz, rfl, hcz, hmz, _⟩ := hz.form
  clear hr hz
  cases hf : frm n css
  · have HR : Hid (entB n css zs = false ∧ entE n css zs = 1) := by unfold entB entE Hid; rw [hf]; exact ⟨rfl, rfl⟩
    go_enter Tryd.func17, Tryd.ntmps17
    go_wp2_with fail
    refine (rFormed_any n _ css _ HX.out.rd).mono ?_
    rw [hf]
    rintro e w1 ⟨rfl, bel1⟩
    have HX1 : Hid (Bx w n (.slice a css.length c) css w1) := HX.out.on bel1
    go_wp2
    go_returns
    rw [HR.out.1, HR.out.2]
    exact ⟨rfl, HX1.out.bel⟩
  cases hfit : fitsP n zs
  · have HR : Hid (entB n css zs = false ∧ entE n css zs = 1) := by unfold entB entE Hid; rw [hf, hfit]; exact ⟨rfl, rfl⟩
    go_enter Tryd.func17, Tryd.ntmps17
    go_wp2_with fail
    refine (rFormed_any n _ css _ HX.out.rd).mono ?_
    rw [hf]
    rintro e w1 ⟨rfl, bel1⟩
    have HX1 : Hid (Bx w n (.slice a css.length c) css w1) := HX.out.on bel1
    have c0 := HX1.out.c0
    go_wp2_with fail
    refine (rWithin_any _ zs n w1 (HZ.out.below bel1)).mono ?_
    rw [hfit]
    rintro e w2 ⟨rfl, rfl⟩
    go_wp2
    go_returns
    rw [HR.out.1, HR.out.2]
    exact ⟨rfl, HX1.out.bel⟩
  cases h16 : decide (16 < n)
  case true =>
    have HR : Hid (entB n css zs = false ∧ entE n css zs = 4) := by
      have h : 16 < n := of_decide_eq_true h16
      unfold entB entE Hid; rw [hf, hfit, decide_eq_false (by omega : ¬ n ≤ 16), if_pos h]; exact ⟨rfl, rfl⟩
    go_enter Tryd.func17, Tryd.ntmps17
    go_wp2_with fail
    refine (rFormed_any n _ css _ HX.out.rd).mono ?_
    rw [hf]
    rintro e w1 ⟨rfl, bel1⟩
    have HX1 : Hid (Bx w n (.slice a css.length c) css w1) := HX.out.on bel1
    have c0 := HX1.out.c0
    go_wp2_with fail
    refine (rWithin_any _ zs n w1 (HZ.out.below bel1)).mono ?_
    rw [hfit]
    rintro e w2 ⟨rfl, rfl⟩
    go_wp2
    go_returns
    rw [HR.out.1, HR.out.2]
    exact ⟨rfl, HX1.out.bel⟩
  have HE : Hid (entE n css zs = 0 ∧ entB n css zs = (modF n css).all (fun m => mkT m zs)) := by
    have h : ¬ 16 < n := of_decide_eq_false h16
    unfold entB entE Hid; rw [hf, hfit, if_neg h, decide_eq_true (by omega : n ≤ 16)]; exact ⟨rfl, by simp⟩
  have HML : Hid (∀ m ∈ modF n css, (m.length : Int) = n) := fun m hm => by
    have h : ¬ 16 < n := of_decide_eq_false h16
    have h0 : 0 ≤ n := by have := hf; simp only [frm, Bool.and_eq_true, decide_eq_true_eq] at this; exact this.1.1
    unfold modF at hm
    rw [hf, decide_eq_true (by omega : n ≤ 16)] at hm
    have := (mem_mods.1 hm).1
    omega
  have HFit : Hid (fitsP n zs = true) := hfit
  have hML := modF_len n css
  go_enter Tryd.func17, Tryd.ntmps17
  go_wp2_with fail
  refine (rFormed_any n _ css _ HX.out.rd).mono ?_
  rw [hf]
  rintro e w1 ⟨rfl, bel1⟩
  have HX1 : Hid (Bx w n (.slice a css.length c) css w1) := HX.out.on bel1
  have c0 := HX1.out.c0
  have c1 := HX1.out.c1
  go_wp2_with fail
  refine (rWithin_any _ zs n w1 (HZ.out.below bel1)).mono ?_
  rw [hfit]
  rintro e w2 ⟨rfl, rfl⟩
  go_wp2_with fail
  refine (rModels_any n _ css _ HX1.out.rd).mono ?_
  rintro e w3 ⟨u, L, rfl, own3, hL, bel3⟩
  obtain ⟨au, cu, rfl⟩ := ownm_form own3
  have HO : Hid (OwnM w2.heap.size w3 (.slice au L.length cu) L) := own3
  have hln : L.length ≤ 65536 := by have : L.length = (modF n css).length := by rw [← hL]; simp
                                    omega
  have HL : Hid (L.map Prod.snd = modF n css) := hL
  have HB3 : Hid (Below w.heap.size w w3) := (HX1.out.on bel3).bel
  have HZ3 : Hid (Rd w3 (.slice az zs.length cz) zs) := (HZ.out.below bel1).below bel3
  clear own3 hL c0 c1 hf hfit HX
  go_wp2
  go_loopg [7] L.length (fun g i wr => ∃ k : Nat, k + g = L.length ∧ i = .int .i64 k ∧ ((L.take k).map Prod.snd).all (fun m => mkT m zs) = true ∧ Below w3.heap.size w3 wr)
  case atStart => exact ⟨0, by omega, rfl, rfl, Below.refl _ _⟩
  case round =>
    obtain ⟨k, hk, rfl, hall, bel⟩ := hrel
    have HK : Hid (k + gk = L.length) := hk
    have HA : Hid (((L.take k).map Prod.snd).all (fun m => mkT m zs) = true) := hall
    clear hall
    by_cases hlt : k < L.length
    · obtain ⟨g, ⟨xv, xm⟩, rfl, hx, hcx, hox⟩ := (HO.out.below bel).at hlt
      dsimp only at hcx hox
      have hmem : xm ∈ modF n css := by rw [← HL.out]; exact List.mem_map.2 ⟨(xv, xm), List.mem_of_getElem? hx, rfl⟩
      have hlen := HML.out xm hmem
      have hxl : xm.length ≤ 140737488351232 := by have := HML.out xm hmem; have h : ¬ 16 < n := of_decide_eq_false h16; omega
      have hrm := hox.rd hxl
      have HT : Hid (Calls Tryd.prog 36 #[.slice az zs.length cz, xv] wr fun e w' => e = .returned (.bool (mkT xm zs)) ∧ w' = wr) := rTrue_any xv _ xm zs wr hrm (HZ3.out.below bel) (by rw [hlen]; exact HFit.out)
      have HTk : Hid ((L.take (k + 1)).map Prod.snd = (L.take k).map Prod.snd ++ [xm]) := by
        show _ = _
        rw [List.take_add_one, hx, List.map_append]; rfl
      obtain ⟨am, cm, rfl, -⟩ := hrm.form
      clear hk hox hrm hx hxl hlen
      cases hq : mkT xm zs
      · have HNo : Hid (entB n css zs = false) := by
          show entB n css zs = false
          rw [HE.out.2]
          exact List.all_eq_false.2 ⟨xm, hmem, by simp [hq]⟩
        rw [hq] at HT
        go_wp2_with fail
        refine HT.out.mono ?_
        rintro e w5 ⟨rfl, rfl⟩
        go_wp2
        go_returns
        rw [HE.out.1, HNo.out]
        exact ⟨rfl, HB3.out.trans (bel.mono HB3.out.size)⟩
      · rw [hq] at HT
        go_wp2_with fail
        refine HT.out.mono ?_
        rintro e w5 ⟨rfl, rfl⟩
        go_wp2
        go_roundg (gk - 1)
        case measure => have := HK.out; omega
        case rel => exact ⟨k + 1, by have := HK.out; omega, by go_num, by rw [HTk.out, List.all_append, HA.out]; simp [hq], bel⟩
    · obtain rfl : k = L.length := by omega
      have HY : Hid (entB n css zs = true) := by
        show entB n css zs = true
        rw [HE.out.2, ← HL.out]
        have := HA.out
        rwa [List.take_length] at this
      clear hk
      go_wp2
      go_returns
      rw [HE.out.1, HY.out]
      exact ⟨rfl, HB3.out.trans (bel.mono HB3.out.size)⟩

end Go.Proofs.YtbphbnfnolgkfaaDoor
