/-
  depotref01.Resolvents, walked.
-/
import Derived.Test.YthplkllphpnaoaaRefE
set_option linter.unusedSimpArgs false
set_option linter.unusedVariables false
namespace Go.Proofs.Ythplkllphpnaoaa
open Go Go.RowKit Go.Shelf

attribute [local go_sem] Oper.semAt_some

theorem resolveOf_in {a b : List Int} {v : Int} (hfa : a.all fmd = true) (hfb : b.all fmd = true) (h1 : 1 ≤ v) (h2 : v ≤ 1048576) : resolveOf a b v = if a.contains v && b.contains (-v) then (0, reso a b v) else (10, []) := by
  unfold resolveOf; rw [hfa, hfb, decide_eq_true (show 1 ≤ v ∧ v ≤ 1048576 from ⟨h1, h2⟩)]; rfl
theorem reso_len (a b : List Int) (v : Int) : (reso a b v).length ≤ 2097152 := tid_len _
theorem ownP_app {base : Nat} {w1 w3 w4 : World} {u v4 : Value} {ws : List Itm} {v : Int} {r : Value} {L : List Int} {o : Obj} (hb : base = w1.heap.size) (hw : Below base w1 w3) (h : OwnP base w3 u ws) (hr : Own base w3 r L) (hl : L.length ≤ 2097152)
    (gr : (w3.alloc o).grownBy w4 u.ownBlock) (own4 : w4.ownsRow base 43 2 v4 (ws.length + 1) (prow ws ++ [.int .i64 v, r])) : OwnP base w4 v4 (ws ++ [(v, r, L)]) ∧ Below base w1 w4 := by
  have hs := hw.size
  have ba : Below w3.heap.size w3 (w3.alloc o) := (Below.refl _ _).alloc (Nat.le_refl _) _
  exact ⟨ownP_grow (h.below ba) (hr.below ba) hl gr own4, (hw.alloc (by omega) _).grown gr (by simp; omega) (fun j hj => ((h.below ba).1.lt j hj).1)⟩

set_option maxHeartbeats 2000000 in
theorem refResolvents_any (va vb : Value) (a b : List Int) (w : World) (ha : Rd w va a) (hb : Rd w vb b) :
    Calls Try.prog 37 #[va, vb] w fun e w' => ∃ v' ws, e = .returned v' ∧ OwnP w.heap.size w' v' ws ∧ ws.map Itm.proj = resAll a b ∧ Below w.heap.size w w' := by
  cases hfa : a.all fmd
  · have er : resAll a b = [] := by unfold resAll; rw [hfa]; rfl
    go_enter Try.func37, Try.ntmps37
    go_wp2_with fail
    refine (refSound_any va a w ha).mono ?_
    rintro e wx ⟨rfl, hwx⟩
    rw [hwx, hfa]
    clear hwx wx
    go_wp2
    go_ret
    exact ⟨_, [], rfl, OwnP.nil _ _, er.symm, Below.refl _ _⟩
  cases hfb : b.all fmd
  · have er : resAll a b = [] := by unfold resAll; rw [hfb]; simp
    go_enter Try.func37, Try.ntmps37
    go_wp2_with fail
    refine (refSound_any va a w ha).mono ?_
    rintro e wx ⟨rfl, hwx⟩
    rw [hwx, hfa]
    clear hwx wx
    go_wp2_with fail
    refine (refSound_any vb b w hb).mono ?_
    rintro e wx ⟨rfl, hwx⟩
    rw [hwx, hfb]
    clear hwx wx
    go_wp2
    go_ret
    exact ⟨_, [], rfl, OwnP.nil _ _, er.symm, Below.refl _ _⟩
  have er : resAll a b = resOn (tid a) (tid b) (tid a) := by unfold resAll; rw [hfa, hfb]; rfl
  obtain ⟨iP, hi, hz0, hz1, hz2⟩ := info_parts Try.info43
  have HA : Hid (∀ W', Below w.heap.size w W' → Rd W' va a) := fun W' h => ha.below h
  have HB : Hid (∀ W', Below w.heap.size w W' → Rd W' vb b) := fun W' h => hb.below h
  have FA : Hid (a.all fmd = true) := hfa
  have FB : Hid (b.all fmd = true) := hfb
  obtain ⟨R, eR⟩ : ∃ R : Nat → List (Int × List Int), R = fun k => resOn (tid a) (tid b) (vle (tid a) (lastV (tid a) k)) := ⟨_, rfl⟩
  have HR0 : Hid (R 0 = []) := by rw [eR]; show resOn _ _ (vle (tid a) 0) = []; rw [vle_zero (tid_rises a)]; rfl
  have HRs : Hid (∀ k, k < (tid a).length → (varOf ((tid a).getD k 0) == lastV (tid a) k) = false → R (k + 1) = R k ++ addsL a b (varOf ((tid a).getD k 0))) := fun k hk hq => by rw [eR]; exact resOn_step hk (by simpa using hq)
  have HRe : Hid (∀ k, k < (tid a).length → (varOf ((tid a).getD k 0) == lastV (tid a) k) = true → R (k + 1) = R k) := fun k hk hq => by
    rw [eR]; show resOn _ _ (vle (tid a) (varOf ((tid a).getD k 0))) = _; rw [beq_iff_eq.1 hq]
  have HRn : Hid (R (tid a).length = resAll a b) := by rw [eR, er]; show resOn _ _ (vle (tid a) (lastV (tid a) (tid a).length)) = _; rw [vle_all (tid_rises a)]
  have HRl : Hid (∀ k, (R k).length ≤ 2097152) := fun k => by rw [eR]; exact resOn_vle_len a b _
  have HV : Hid (∀ k, k < (tid a).length → 1 ≤ varOf ((tid a).getD k 0) ∧ varOf ((tid a).getD k 0) ≤ 1048576) := fun k hk => by
    have hf := (tid_rises a).2 _ (getD_mem hk)
    have h1 := var_idx hf
    have h2 := idx_range hf
    omega
  clear eR er
  go_enter Try.func37, Try.ntmps37
  go_wp2_with fail
  refine (refSound_any va a w ha).mono ?_
  rintro e wx ⟨rfl, hwx⟩
  rw [hwx, hfa]
  clear hwx wx
  go_wp2_with fail
  refine (refSound_any vb b w hb).mono ?_
  rintro e wx ⟨rfl, hwx⟩
  rw [hwx, hfb]
  clear hwx wx
  go_wp2_with fail
  refine (refTidy va a w ha).mono ?_
  rintro e w1 ⟨v1, rfl, own1, bel1⟩
  have hrd := own1.rd (tid8 a)
  clear own1 ha hb hfa hfb
  generalize tid a = t at *
  rcases hrd.cases with ⟨rfl, a', c', rfl, _, _⟩ | ⟨bk, off, c', rfl, hpos, hc, hm, hbk, hcell⟩
  · go_wp2
    refine wp_loop_rounds 1 ?_
    rw [rounds_succ]
    go_wp2
    go_ret
    exact ⟨_, [], rfl, OwnP.nil _ _, by rw [← HRn.out]; exact HR0.out.symm, bel1⟩
  · have HC : Hid (∀ j, j < t.length → w1.cell? ⟨bk, off + j, none⟩ = some (.int .i64 (t.getD j 0))) := hcell
    have hlt8 := hrd.len
    clear hcell hrd
    go_wp2
    go_loopg [5, 7, 8] t.length (fun g v l i wr => ∃ (k : Nat) (ws : List Itm), k + g = t.length ∧ i = .int .i64 k ∧ l = .int .i64 (lastV t k) ∧ OwnP w1.heap.size wr v ws ∧ ws.map Itm.proj = R k ∧ Below w1.heap.size w1 wr)
    case atStart => exact ⟨0, [], by omega, rfl, rfl, OwnP.nil _ _, HR0.out.symm, Below.refl _ _⟩
    case round =>
      obtain ⟨k, ws, hk, rfl, rfl, own, hws, bel⟩ := hrel
      have HK : Hid (k + gk = t.length) := hk
      have HW : Hid (ws.map Itm.proj = R k) := hws
      have hwl : ws.length ≤ 2097152 := by have h1 := congrArg List.length hws; rw [List.length_map] at h1; have h2 := HRl.out k; omega
      clear hws
      by_cases hlt : k < t.length
      · have hck : wr.cell? ⟨bk, off + k, none⟩ = some (.int .i64 (t.getD k 0)) := cell_in hbk bel HC.out hlt
        obtain ⟨hv1, hv2⟩ := HV.out k hlt
        have HL : Hid (lastV t (k + 1) = varOf (t.getD k 0)) := rfl
        cases hq : (varOf (t.getD k 0) == lastV t k)
        · have HN : Hid (R (k + 1) = R k ++ addsL a b (varOf (t.getD k 0))) := HRs.out k hlt hq
          have HVc : Hid (∀ W, Calls Try.prog 14 #[.int .i64 (t.getD k 0)] W fun e w' => e = .returned (.int .i64 (varOf (t.getD k 0))) ∧ w' = W) := fun W => refVar_any _ W
          clear hk
          generalize varOf (t.getD k 0) = v at *
          generalize t.getD k 0 = z at *
          generalize lastV t k = la at *
          go_wp2_with fail
          refine (HVc.out wr).mono ?_
          rintro e wx ⟨rfl, hwx⟩
          rw [hwx]
          clear hwx wx
          go_wp2_with fail
          have B0 : Below w.heap.size w wr := Below.step bel1 bel
          refine (refResolve_any va vb a b v wr (HA.out _ B0) (HB.out _ B0)).mono ?_
          rintro e w3 ⟨v3, rfl, own3, bel3⟩
          have b3 : Below w1.heap.size w1 w3 := bel.trans (bel3.mono bel.size)
          have B3 := Below.step B0 bel3
          have o3 := own.below bel3
          clear B0
          rw [resolveOf_in FA.out FB.out hv1 hv2] at own3 ⊢
          cases q1 : (a.contains v && b.contains (-v))
          · rw [q1] at own3
            simp only [Bool.false_eq_true, if_false] at own3 ⊢
            go_wp2_with fail
            refine (refResolve_any vb va b a v w3 (HB.out _ B3) (HA.out _ B3)).mono ?_
            rintro e w5 ⟨v5, rfl, own5, bel5⟩
            have b5 : Below w1.heap.size w1 w5 := b3.trans (bel5.mono b3.size)
            have o5 := o3.below bel5
            rw [resolveOf_in FB.out FA.out hv1 hv2] at own5 ⊢
            cases q2 : (b.contains v && a.contains (-v))
            · rw [q2] at own5
              dsimp only [ite_true, Bool.false_eq_true, ite_false] at own5 ⊢
              simp only [Bool.false_eq_true, if_false] at own5 ⊢
              go_wp2
              go_roundg (gk - 1)
              case measure => have := HK.out; omega
              case rel => exact ⟨k + 1, _, by have := HK.out; omega, by go_num, by rw [HL.out], o5, by rw [HN.out]; unfold addsL; rw [q1, q2]; simp [HW.out, Itm.proj], b5⟩
            · rw [q2] at own5
              simp only [if_true] at own5 ⊢
              have own5' := own5.mono (base' := w1.heap.size) (by have := b3.size; omega)
              obtain ⟨_, a5, c5, e5, -⟩ := own5.rd (reso8 _ _ _)
              subst e5
              go_wp2_with (at_builtin; refine wpList_append_own _ rfl _ _ 37 rfl w1.heap.size 43 iP (.agg #[.int .i64 0, .slice none 0 0]) 2 32 Try.underlying37 hi hz0 hz1 hz2 rfl (by decide) _ ws.length (prow ws) rfl (World.ownsRow.alloc o5.1 _) _ 1 1 [.int .i64 v, .slice a5 (reso b a v).length c5] rfl rfl (cell_two_new _ _ _ _) (by simp [Value.oneCell']) (by unfold maxLen; omega) (by omega) (by have := b5.size; simp; omega) ?_; intro v6 w6 own6 gr6 hn6)
              obtain ⟨o6, b6⟩ := ownP_app rfl b5 o5 own5' (reso_len _ _ _) gr6 own6
              go_roundg (gk - 1)
              case measure => have := HK.out; omega
              case rel => exact ⟨k + 1, _, by have := HK.out; omega, by go_num, by rw [HL.out], o6, by rw [HN.out]; unfold addsL; rw [q1, q2]; simp [HW.out, Itm.proj], b6⟩
          · rw [q1] at own3
            simp only [if_true] at own3 ⊢
            have own3' := own3.mono (base' := w1.heap.size) (by have := bel.size; omega)
            obtain ⟨_, a3, c3, e3, -⟩ := own3.rd (reso8 _ _ _)
            subst e3
            go_wp2_with (at_builtin; refine wpList_append_own _ rfl _ _ 37 rfl w1.heap.size 43 iP (.agg #[.int .i64 0, .slice none 0 0]) 2 32 Try.underlying37 hi hz0 hz1 hz2 rfl (by decide) _ ws.length (prow ws) rfl (World.ownsRow.alloc o3.1 _) _ 1 1 [.int .i64 v, .slice a3 (reso a b v).length c3] rfl rfl (cell_two_new _ _ _ _) (by simp [Value.oneCell']) (by unfold maxLen; omega) (by omega) (by have := b3.size; simp; omega) ?_; intro v4 w4 own4 gr4 hn4)
            obtain ⟨o4, b4⟩ := ownP_app rfl b3 o3 own3' (reso_len _ _ _) gr4 own4
            have B4 : Below w.heap.size w w4 := bel1.trans (b4.mono bel1.size)
            have hwl4 : (ws ++ [(v, Value.slice a3 (reso a b v).length c3, reso a b v)]).length ≤ 2097153 := by simp; omega
            refine (refResolve_any vb va b a v w4 (HB.out _ B4) (HA.out _ B4)).mono ?_
            rintro e w5 ⟨v5, rfl, own5, bel5⟩
            have b5 : Below w1.heap.size w1 w5 := b4.trans (bel5.mono b4.size)
            have o5 := o4.below bel5
            rw [resolveOf_in FB.out FA.out hv1 hv2] at own5 ⊢
            cases q2 : (b.contains v && a.contains (-v))
            · rw [q2] at own5
              dsimp only [ite_true, Bool.false_eq_true, ite_false] at own5 ⊢
              simp only [Bool.false_eq_true, if_false] at own5 ⊢
              go_wp2
              go_roundg (gk - 1)
              case measure => have := HK.out; omega
              case rel => exact ⟨k + 1, _, by have := HK.out; omega, by go_num, by rw [HL.out], o5, by rw [HN.out]; unfold addsL; rw [q1, q2]; simp [HW.out, Itm.proj], b5⟩
            · rw [q2] at own5
              simp only [if_true] at own5 ⊢
              have own5' := own5.mono (base' := w1.heap.size) (by have := b4.size; omega)
              obtain ⟨_, a5, c5, e5, -⟩ := own5.rd (reso8 _ _ _)
              subst e5
              go_wp2_with (at_builtin; refine wpList_append_own _ rfl _ _ 37 rfl w1.heap.size 43 iP (.agg #[.int .i64 0, .slice none 0 0]) 2 32 Try.underlying37 hi hz0 hz1 hz2 rfl (by decide) _ ((ws ++ [(v, Value.slice a3 (reso a b v).length c3, reso a b v)])).length (prow (ws ++ [(v, Value.slice a3 (reso a b v).length c3, reso a b v)])) rfl (World.ownsRow.alloc o5.1 _) _ 1 1 [.int .i64 v, .slice a5 (reso b a v).length c5] rfl rfl (cell_two_new _ _ _ _) (by simp [Value.oneCell']) (by unfold maxLen; omega) (by omega) (by have := b5.size; simp; omega) ?_; intro v6 w6 own6 gr6 hn6)
              obtain ⟨o6, b6⟩ := ownP_app rfl b5 o5 own5' (reso_len _ _ _) gr6 own6
              go_roundg (gk - 1)
              case measure => have := HK.out; omega
              case rel => exact ⟨k + 1, _, by have := HK.out; omega, by go_num, by rw [HL.out], o6, by rw [HN.out]; unfold addsL; rw [q1, q2]; simp [HW.out, Itm.proj], b6⟩
        · have HN : Hid (R (k + 1) = R k) := HRe.out k hlt hq
          have HVc : Hid (∀ W, Calls Try.prog 14 #[.int .i64 (t.getD k 0)] W fun e w' => e = .returned (.int .i64 (varOf (t.getD k 0))) ∧ w' = W) := fun W => refVar_any _ W
          have hqe : lastV t k = varOf (t.getD k 0) := (beq_iff_eq.1 hq).symm
          have HQ : Hid (lastV t k = varOf (t.getD k 0)) := hqe
          clear hk hqe
          generalize varOf (t.getD k 0) = v at *
          generalize t.getD k 0 = z at *
          generalize lastV t k = la at *
          go_wp2_with fail
          refine (HVc.out wr).mono ?_
          rintro e wx ⟨rfl, hwx⟩
          rw [hwx]
          clear hwx wx
          go_wp2
          go_roundg (gk - 1)
          case measure => have := HK.out; omega
          case rel => exact ⟨k + 1, ws, by have := HK.out; omega, by go_num, by rw [HL.out, HQ.out], own, by rw [HN.out]; exact HW.out, bel⟩
      · obtain rfl : k = t.length := by omega
        clear hk hlt
        go_wp2
        go_ret
        exact ⟨_, ws, rfl, own.mono bel1.size, by rw [← HRn.out]; exact HW.out, Below.step bel1 bel⟩

end Go.Proofs.Ythplkllphpnaoaa
