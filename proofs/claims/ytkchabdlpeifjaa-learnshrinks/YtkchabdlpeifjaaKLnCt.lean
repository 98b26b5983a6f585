/-
  learn, the document's side: Shrink.
  KEEP: len below nil form rd mono one more grown lt size cell some none of ofNat add out step row get at mk new made look put del kept drew alloc has same other map rde take lit lev lstB pre ws cells bnd on start app set box bel rz tidy ms reason c f max lv own
-/
import Derived.Test.YtkchabdlpeifjaaKLnCs
import Derived.Test.YtkchabdlpeifjaaJLnK
set_option linter.unusedSimpArgs false
set_option linter.unusedVariables false
namespace Go.Proofs.Ytkchabdlpeifjaa
open Go Go.RowKit
theorem fsI_here {cl : List Int} {k : Nat} (hk : k < cl.length) : (fsI cl (cl.getD k 0) == some k) = !((cl.take k).contains (cl.getD k 0)) := by
  rw [Bool.eq_iff_iff, beq_iff_eq, Bool.not_eq_true', List.contains_eq_any_beq]
  unfold fsI
  rw [List.findIdx?_eq_some_iff_getElem, List.any_eq_false]
  have e : cl.getD k 0 = cl[k] := by simp [List.getD_eq_getElem?_getD, hk]
  constructor
  · rintro ⟨_, _, h3⟩ x hx
    obtain ⟨j, hj, rfl⟩ := List.getElem_of_mem hx
    have hj' : j < k := by simp at hj; omega
    have := h3 j hj'
    simp only [List.getElem_take]
    intro q
    apply this
    rw [beq_iff_eq] at q ⊢
    exact q.symm
  · intro h
    refine ⟨hk, by rw [e]; simp, fun j hj => ?_⟩
    have := h cl[j] (by rw [List.mem_take_iff_getElem]; exact ⟨j, by omega, rfl⟩)
    intro q
    apply this
    rw [beq_iff_eq] at q ⊢
    exact q.symm
set_option maxRecDepth 100000 in
set_option maxHeartbeats 6400000 in
theorem rShrink_any (v vc : Value) (t : List Ent) (cl : List Int) (w : World) (hr : RdE w v t) (hz : Rd w vc cl) :
    Calls Try.prog 18 #[v, vc] w fun e w' => ShS w' w.heap.size t cl e ∧ Below w.heap.size w w' := by
  have hlz := hz.len
  have hl2 := hr.len
  have HAs : Hid (Calls Try.prog 34 #[v, vc] w fun e w' => e = .returned (.int .i64 (askI t cl)) ∧ ∃ m, w' = w.drewN m) := rAsked_any v vc t cl w hr hz
  have HR : Hid (RdE w v t) := hr
  have HZ : Hid (Rd w vc cl) := hz
  unfold ShS
  clear hr hz
  by_cases h0 : askI t cl = 0
  case neg =>
    rw [if_neg h0]
    have hb0 : (askI t cl == 0) = false := by simpa using h0
    generalize askI t cl = AI at *
    go_enter Try.func18, Try.ntmps18
    go_wp2_with (go_at_call 34; refine HAs.out.mono ?_; rintro e w1 ⟨rfl, m1, hw⟩; obtain rfl := hw)
    go_ret2
    exact ⟨⟨.slice none 0 0, rfl, World.ownsRow_nil _ _ _ _⟩, below_drewN _ _⟩
  have hk : frmE t = true ∧ cl.all fmd = true ∧ falB t cl = true := by
    unfold askI at h0
    cases e1 : frmE t <;> cases e2 : cl.all fmd <;> cases e3 : falB t cl <;> simp [e1, e2, e3] at h0 ⊢
  obtain ⟨hk1, hk2, hk3⟩ := hk
  have HWs : Hid (Ws t) := (frmE_iff t).1 hk1
  have HFl : Hid (∀ x ∈ cl, isF t x = true) := List.all_eq_true.1 hk3
  rw [h0] at HAs ⊢
  rw [if_pos rfl]
  have HCo : Hid (∀ m, Calls Try.prog 43 #[v, vc] (w.drewN m) fun e w' => ∃ u, e = .returned u ∧ OwnBl w.heap.size w' u (covN t (fun x => cl.contains x) t.length) ∧ Below w.heap.size w w') := fun m => (rCovered_any v vc t cl _ (HR.out.drewN m) (HZ.out.below (below_drewN w m)) HWs.out).mono fun e w' ⟨u, h1, h2, h3⟩ => ⟨u, h1, h2, Below.step (below_drewN w m) h3⟩
  obtain ⟨a, c, rfl, hc, hm, _⟩ := HR.out.form
  obtain ⟨ua, uc, rfl, huc, hum, _⟩ := HZ.out.form
  clear hk1 hk2 hk3 h0
  go_enter Try.func18, Try.ntmps18
  go_upto_region 5 with (first | (go_at_call 34; refine HAs.out.mono ?_; rintro e w1 ⟨rfl, m1, hw⟩; obtain rfl := hw) | (go_at_call 43; refine (HCo.out _).mono ?_; rintro e w2 ⟨u7, rfl, o2, b2⟩; have H2 : Hid (OwnBl w.heap.size w2 u7 (covN t (fun x => cl.contains x) t.length) ∧ Below w.heap.size w w2) := ⟨o2, b2⟩; clear o2 b2))
  obtain ⟨ca, cc, hu7, hcc, hcm, hccell⟩ := H2.out.1.form
  rw [covN_len] at hu7 hcc hccell
  subst hu7
  have HCc : Hid (∀ k, k < t.length → ∃ b, ca = some ⟨b, 0, none⟩ ∧ b < w2.heap.size ∧ w2.cell? ⟨b, k, none⟩ = some (.bool (covB t (fun x => cl.contains x) k))) := hccell
  have HB2 : Hid (∀ W, Below w2.heap.size w2 W → Below w.heap.size w W ∧ RdE W (.slice a t.length c) t ∧ Rd W (.slice ua cl.length uc) cl) := fun W hW => by
    have h1 : Below w.heap.size w W := Below.step H2.out.2 hW
    exact ⟨h1, HR.out.below h1, HZ.out.below h1⟩
  have hs2 := H2.out.2.size
  clear HAs HCo H2 hccell
  go_wp2_with fail
  go_loopg [8, 9] cl.length (fun g' u i wr => ∃ k : Nat, k + g' = cl.length ∧ i = .int .i64 k ∧ Hid (Own w2.heap.size wr u (shrK t cl k)) ∧ Hid (Below w2.heap.size w2 wr))
  case atStart => exact ⟨0, by omega, rfl, World.ownsRow_nil _ _ _ _, Below.refl _ _⟩
  case round =>
    obtain ⟨k, hk, rfl, HO, HB⟩ := hrel
    have HK : Hid (k + gk = cl.length) := hk
    obtain ⟨hbw, hre, hrd⟩ := HB2.out wr HB.out
    have HBw : Hid (Below w.heap.size w wr) := hbw
    by_cases hlt : k < cl.length
    · obtain ⟨ua', uc', e', _, _, hcell⟩ := hrd.form
      injection e' with q1 q2 q3
      subst q1 q3
      obtain ⟨b2, off2, rfl, hck⟩ := hcell k hlt
      have hmem := getD_mem' (l := cl) (k := k) (d := 0) hlt
      obtain ⟨hfy, hpl, _, hlv, hplc⟩ := HWs.out.isF_at (HFl.out _ hmem)
      have HPl : Hid (Calls Try.prog 27 #[.slice a t.length c, .int .i64 (cl.getD k 0)] wr fun e w' => e = .returned (.int .i64 (plN t (cl.getD k 0) : Int)) ∧ w' = wr) := by rw [← plI_plN HWs.out (HFl.out _ hmem)]; exact rPlace_any _ t _ _ hre hfy
      have hsl := shrK_len t cl k
      have hShr : shrK t cl (k + 1) = if stay t cl k then shrK t cl k ++ [cl.getD k 0] else shrK t cl k := rfl
      have hSty : stay t cl k = (k == 0 || (decide (0 < lvl t (cl.getD k 0)) && !covB t (fun x => cl.contains x) (plN t (cl.getD k 0))) && !((cl.take k).contains (cl.getD k 0))) := by rw [← fsI_here hlt]; rfl
      have hrt : Rd wr (.slice (some ⟨b2, off2, none⟩) k uc) (cl.take k) := by
        have hkl : (cl.take k).length = k := by simp; omega
        refine ⟨by rw [hkl]; omega, some ⟨b2, off2, none⟩, uc, by rw [hkl], by rw [hkl]; omega, hum, fun e => (by cases e), fun hne => ?_⟩
        obtain ⟨b3, off3, e3, _⟩ := hcell 0 (by omega)
        injection e3 with e3
        injection e3 with e4 e5
        subst e4 e5
        have hb3 : b2 < wr.heap.size := World.block_lt_of_cell? wr ⟨b2, off2 + k, none⟩ hck
        refine ⟨b2, off2, rfl, hb3, fun j hj => ?_⟩
        rw [hkl] at hj
        obtain ⟨b4, off4, e6, h6⟩ := hcell j (by omega)
        injection e6 with e6
        injection e6 with e7 e8
        subst e7 e8
        rw [h6]
        simp [List.getD_eq_getElem?_getD, List.getElem?_take, hj]
      have HHi : Hid (∀ n, Calls Try.prog 44 #[.slice (some ⟨b2, off2, none⟩) k uc, .int .i64 (cl.getD k 0)] (wr.drewN n) fun e w' => e = .returned (.bool ((cl.take k).contains (cl.getD k 0))) ∧ w' = wr.drewN n) := fun n => hasInt15_any _ _ _ _ (hrt.below (below_drewN _ n))
      obtain ⟨bt, offt, ut, hxa, hblt, ct0, ct1, ct2, _⟩ := hre.at hpl
      have hlvq : (t.getD (plN t (cl.getD k 0)) e0).2.1 = lvl t (cl.getD k 0) := hlv.symm
      rw [hlvq] at ct1
      obtain ⟨bc, hca, hbc, hcv0⟩ := HCc.out _ hpl
      have hcv : wr.cell? ⟨bc, plN t (cl.getD k 0), none⟩ = some (.bool (covB t (fun x => cl.contains x) (plN t (cl.getD k 0)))) := (HB.out.cell (p := ⟨bc, plN t (cl.getD k 0), none⟩) hbc).trans hcv0
      have HApp : Hid (∀ n w7 v7, Ap ((wr.drewN n).alloc (.cells #[.int .i64 (cl.getD k 0)] 3)) u8 w7 v7 → Below w2.heap.size w2 w7) := fun n w7 v7 ha => (Below.step (Below.step HB.out (below_drewN _ n)) (below_box _ _)).grown ha.grown (by have := HB.out.size; simp; omega) (fun j hj => (World.ownsRow.lt HO.out j hj).1)
      have hki : (k : Int) ≤ (uc : Int) := by omega
      subst hxa
      subst hca
      have hpi : (plN t (cl.getD k 0) : Int) < (t.length : Int) := by omega
      clear hcell hmem hfy hlv hplc hlvq hrd hre hbw hrt ct0 ct2 hblt hk hcv0 hbc
      generalize hct : (cl.take k).contains (cl.getD k 0) = CT at *
      generalize covB t (fun x => cl.contains x) (plN t (cl.getD k 0)) = CB at *
      generalize plN t (cl.getD k 0) = px at *
      generalize lvl t (cl.getD k 0) = lx at *
      generalize hShk : shrK t cl k = O at *
      clear hShk
      generalize cl.getD k 0 = y at *
      cases CT
      · rw [Bool.not_false, Bool.and_true] at hSty
        clear hct
        by_cases hk0 : k = 0
        · subst hk0
          have HN : Hid (shrK t cl (0 + 1) = O ++ [y]) := by show _ = _; rw [hShr, hSty]; rfl
          rw [show ((0 : Nat) : Int) = 0 from rfl]
          simp only [Nat.add_zero] at hck
          clear hShr hSty
          go_upto_region 10 with (go_at_call 27; refine HPl.out.mono ?_; rintro e w' ⟨rfl, hw⟩; obtain rfl := hw.symm)
          go_quiet ((go_at_call 44; exact Calls.quiet_of_same (HHi.out _)))
          go_wp2_with (at_builtin; refine wpList_app_rd rfl _ _ rfl w2.heap.size u8 (.slice (some ⟨(wr.drewN nq).heap.size, 0, none⟩) 1 1) O [y] rfl rfl ((HO.out.below (below_drewN _ _)).below (below_box _ _)) (Own.rd (own_one15 (wr.drewN nq) y) (by simp)) (by simp; omega) (by have := HB.out.size; simp; omega) ?_; intro v7 w7 own7 ap7; have HH7 : Hid (Own w2.heap.size w7 v7 (O ++ [y]) ∧ Below w2.heap.size w2 w7) := ⟨own7, HApp.out nq w7 v7 ap7⟩; clear own7 ap7)
          go_roundg (gk - 1)
          case measure => have := HK.out; omega
          case rel => exact ⟨0 + 1, by have := HK.out; omega, by go_num, by rw [HN.out]; exact HH7.out.1, HH7.out.2⟩
        · have hkb : ((k : Int) == 0) = false := beq_eq_false_iff_ne.2 (by omega)
          rw [show (k == 0) = false by simpa using hk0, Bool.false_or] at hSty
          by_cases hl0 : 0 < lx
          · have hl0d : decide (0 < lx) = true := decide_eq_true hl0
            cases CB
            · have HN : Hid (shrK t cl (k + 1) = O ++ [y]) := by show _ = _; rw [hShr, hSty, hl0d]; rfl
              clear hShr hSty
              go_upto_region 10 with (go_at_call 27; refine HPl.out.mono ?_; rintro e w' ⟨rfl, hw⟩; obtain rfl := hw.symm)
              go_quiet ((go_at_call 44; exact Calls.quiet_of_same (HHi.out _)))
              go_wp2_with (at_builtin; refine wpList_app_rd rfl _ _ rfl w2.heap.size u8 (.slice (some ⟨(wr.drewN nq).heap.size, 0, none⟩) 1 1) O [y] rfl rfl ((HO.out.below (below_drewN _ _)).below (below_box _ _)) (Own.rd (own_one15 (wr.drewN nq) y) (by simp)) (by simp; omega) (by have := HB.out.size; simp; omega) ?_; intro v7 w7 own7 ap7; have HH7 : Hid (Own w2.heap.size w7 v7 (O ++ [y]) ∧ Below w2.heap.size w2 w7) := ⟨own7, HApp.out nq w7 v7 ap7⟩; clear own7 ap7)
              go_roundg (gk - 1)
              case measure => have := HK.out; omega
              case rel => exact ⟨k + 1, by have := HK.out; omega, by go_num, by rw [HN.out]; exact HH7.out.1, HH7.out.2⟩
            · have HN : Hid (shrK t cl (k + 1) = O) := by show _ = _; rw [hShr, hSty]; simp
              clear hShr hSty
              go_upto_region 10 with (go_at_call 27; refine HPl.out.mono ?_; rintro e w' ⟨rfl, hw⟩; obtain rfl := hw.symm)
              go_quiet ((go_at_call 44; exact Calls.quiet_of_same (HHi.out _)))
              go_wp2_with fail
              go_roundg (gk - 1)
              case measure => have := HK.out; omega
              case rel => exact ⟨k + 1, by have := HK.out; omega, by go_num, by rw [HN.out]; exact HO.out.below (below_drewN _ _), Below.step HB.out (below_drewN _ _)⟩
          · have hl0d : decide (0 < lx) = false := decide_eq_false hl0
            have HN : Hid (shrK t cl (k + 1) = O) := by show _ = _; rw [hShr, hSty, hl0d]; simp
            clear hShr hSty
            go_upto_region 10 with (go_at_call 27; refine HPl.out.mono ?_; rintro e w' ⟨rfl, hw⟩; obtain rfl := hw.symm)
            go_quiet ((go_at_call 44; exact Calls.quiet_of_same (HHi.out _)))
            go_wp2_with fail
            go_roundg (gk - 1)
            case measure => have := HK.out; omega
            case rel => exact ⟨k + 1, by have := HK.out; omega, by go_num, by rw [HN.out]; exact HO.out.below (below_drewN _ _), Below.step HB.out (below_drewN _ _)⟩
      · have hk0 : ¬ k = 0 := fun e => by subst e; simp at hct
        have HN : Hid (shrK t cl (k + 1) = O) := by show _ = _; rw [hShr, hSty, show (k == 0) = false by simpa using hk0]; simp
        clear hShr hSty hct
        go_upto_region 10 with (go_at_call 27; refine HPl.out.mono ?_; rintro e w' ⟨rfl, hw⟩; obtain rfl := hw.symm)
        go_quiet ((go_at_call 44; exact Calls.quiet_of_same (HHi.out _)))
        go_wp2_with fail
        go_roundg (gk - 1)
        case measure => have := HK.out; omega
        case rel => exact ⟨k + 1, by have := HK.out; omega, by go_num, by rw [HN.out]; exact HO.out.below (below_drewN _ _), Below.step HB.out (below_drewN _ _)⟩
    · obtain rfl : k = cl.length := by omega
      clear hk
      go_wp2_with fail
      go_ret2
      exact ⟨⟨u8, rfl, HO.out.mono hs2⟩, HBw.out⟩
end Go.Proofs.Ytkchabdlpeifjaa
