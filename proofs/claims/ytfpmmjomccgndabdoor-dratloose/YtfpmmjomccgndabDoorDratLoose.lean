/-
  DratLoose, walked.
  KEEP: below rdz form out len on
-/
import Derived.Test.YtfpmmjomccgndabDoorDrL
import Derived.Test.YtfpmmjomccgndabDoorDrC
import Derived.Test.YtfpmmjomccgndabDoorDrSd
import Derived.Test.YtfpmmjomccgndabDoorDrRe
import Derived.Test.YtfpmmjomccgndabDoorOpenZ
import Derived.Deep.CutRange
set_option linter.unusedSimpArgs false
set_option linter.unusedVariables false
namespace Go.Proofs.YtfpmmjomccgndabDoor
open Go Go.RowKit
def GapD (e : Ending) : Prop := ∃ g : List UInt8, g ∈ gapsD ∧ e = .returned (.string ⟨g.toArray⟩)
set_option maxHeartbeats 1600000 in
theorem gap9_any (z : Int) (w : World) :
    Calls Tryd.prog 12 #[.int .i64 z] w fun e w' => GapD e ∧ w' = w := by
  have HG : Hid (∀ (g : List UInt8) (e : Ending), g ∈ gapsD → e = .returned (.string ⟨g.toArray⟩) → GapD e) := fun g e h1 h2 => ⟨g, h1, h2⟩
  generalize hGS : GapD = GS at *
  clear hGS
  have ht1 : -7 < z.tmod 7 := by have := Int.tmod_lt_of_pos (-z) (by decide : (0 : Int) < 7); rw [Int.neg_tmod] at this; omega
  have ht2 : z.tmod 7 < 7 := Int.tmod_lt_of_pos z (by decide)
  generalize hT : z.tmod 7 = t at *
  have hw : -9223372036854775808 ≤ t + 7 ∧ t + 7 ≤ 9223372036854775807 := by omega
  have cs : (t + 7).tmod 7 = 0 ∨ (t + 7).tmod 7 = 1 ∨ (t + 7).tmod 7 = 2 ∨ (t + 7).tmod 7 = 3 ∨ (t + 7).tmod 7 = 4 ∨ (t + 7).tmod 7 = 5 ∨ (t + 7).tmod 7 = 6 := by
    rw [Int.tmod_eq_emod_of_nonneg (by omega)]; omega
  have ce : (t + 7).tmod 7 = (t + 7) % 7 := Int.tmod_eq_emod_of_nonneg (by omega)
  rcases cs with h | h | h | h | h | h | h
  all_goals
    rw [ce] at h
    clear ce
    go_enter Tryd.func12, Tryd.ntmps12
    go_wp2
    go_ret
    refine ⟨HG.out _ _ ?_ rfl, rfl⟩
    decide
theorem infoS9 : (Tryd.prog.info? 9).map (fun i => (i.zero, i.size, i.bytes)) = some (some (.string ⟨#[]⟩), 1, 16) := by kernel_rfl
def strV (w : List UInt8) : Value := .string ⟨w.toArray⟩
/-- a row of words of the call's own -/
def OwnW (B : Nat) (W : World) (v : Value) (ws : List (List UInt8)) : Prop := W.ownsRow B 9 1 v ws.length (ws.map strV)
theorem OwnW.one {B : Nat} {W : World} {v : Value} {ws : List (List UInt8)} {x : List UInt8} (h : W.ownsRow B 9 1 v (ws.length + 1) (ws.map strV ++ [strV x])) : OwnW B W v (ws ++ [x]) := by
  unfold OwnW; simpa using h
theorem OwnW.form {B : Nat} {W : World} {v : Value} {ws : List (List UInt8)} (h : OwnW B W v ws) : ∃ a c, v = .slice a ws.length c ∧ ws.length ≤ c ∧ c ≤ maxLen ∧ ∀ k, k < ws.length → ∃ b, a = some ⟨b, 0, none⟩ ∧ W.cell? ⟨b, k, none⟩ = some (.string ⟨(ws.getD k []).toArray⟩) := by
  rcases h.2 with ⟨rfl, hn⟩ | ⟨g, cap, cur, rfl, hg, hh, hn, hm, hs, ht⟩
  · exact ⟨none, 0, by rw [hn], by omega, Nat.zero_le _, fun k hk => by omega⟩
  · refine ⟨_, cap, rfl, hn, hm, fun k hk => ⟨g, rfl, ?_⟩⟩
    rw [World.ownsRow.cellAt h k (by omega)]
    simp [strV, hk]
theorem rendD_len : ∀ {ts : List Wg}, (∀ t ∈ ts, t.1.length ≤ 22 ∧ t.2 ∈ gapsD) → (rendD ts).length ≤ 36 * ts.length
  | [], _ => Nat.le_refl _
  | t :: r, h => by
    have ih := rendD_len (ts := r) (fun x hx => h x (List.mem_cons_of_mem _ hx))
    have h1 := h t List.mem_cons_self
    have h2 : t.2.length ≤ 14 := by
      have := h1.2
      simp only [gapsD, List.mem_cons, List.not_mem_nil, or_false] at this
      rcases this with e | e | e | e | e | e | e <;> rw [e] <;> decide
    simp only [rendD, List.flatMap_cons, List.length_append, List.length_cons] at ih ⊢
    omega
theorem rendD_snoc (ts : List Wg) (t : Wg) : rendD (ts ++ [t]) = (rendD ts ++ t.1) ++ t.2 := by simp [rendD]
theorem stpW_len (x : Stp) : (stpW x).length ≤ x.2.length + 2 := by unfold stpW; split <;> simp
theorem ws_len : ∀ l : List Stp, (l.flatMap stpW).length ≤ 2 * stpN l
  | [] => by simp
  | x :: l => by
    have := ws_len l
    have := stpW_len x
    simp only [stpN, List.flatMap_cons, List.length_append, List.length_cons, List.map_cons, List.sum_cons] at *
    omega
theorem ws_more (l : List Stp) (k : Nat) (h : k < l.length) : (l.take (k + 1)).flatMap stpW = (l.take k).flatMap stpW ++ stpW (l.getD k (false, [])) := by
  rw [take_succ_getD l (false, []) k h]; simp
theorem ws_pre (l : List Stp) (k : Nat) (h : k < l.length) : ((l.take k).flatMap stpW).length + (stpW (l.getD k (false, []))).length ≤ (l.flatMap stpW).length := by
  have e : l.flatMap stpW = (l.take (k + 1)).flatMap stpW ++ (l.drop (k + 1)).flatMap stpW := by rw [← List.flatMap_append, List.take_append_drop]
  rw [e, ws_more l k h]; simp
theorem stpW_each {x : Stp} {w : List UInt8} (hw : w ∈ stpW x) (hf : ∀ z ∈ x.2, fmd z = true) : w.length ≤ 22 := by
  unfold stpW at hw
  rcases List.mem_append.1 hw with hw | hw
  · rcases List.mem_append.1 hw with hw | hw
    · split at hw
      · have : w = [100] := by simpa using hw
        subst this; decide
      · cases hw
    · obtain ⟨z, hz, rfl⟩ := List.mem_map.1 hw
      have := fmd_range (hf z hz)
      have := Lib.itoa_length_le z (by omega) (by omega)
      omega
  · have : w = [48] := by simpa using hw
    subst this; decide
namespace dratLoose
open Go Go.RowKit Go.Lib Go.Sort

set_option maxHeartbeats 6400000 in
set_option maxRecDepth 100000 in
theorem walk (s : Value) (l : List Stp) (gv : Value) (gs : List Int) (w : World) (hr : RdZ w s l) (hgr : Rd w gv gs) (hb : stpN l ≤ 1048576) (hgb : gs.length ≤ 1048576) (he : Env w) :
    Calls Tryd.prog 4 #[s, gv] w fun e w' => e = .returned (.bool true) ∧ RowKit.Below w.heap.size w w' := by
  have hl := hr.len
  have HR : Hid (RdZ w s l) := hr
  have HGr : Hid (Rd w gv gs) := hgr
  have HE0 : Hid (Env w) := he
  obtain ⟨a, c, rfl, hc, hm, _⟩ := hr.form
  obtain ⟨ag, cg, rfl, hcg, hmg, _⟩ := hgr.form
  obtain ⟨iS, hi, hz0, hz1, hz2⟩ := info_parts infoS9
  have HWl : Hid ((l.flatMap stpW).length ≤ 2097152) := by have := ws_len l; show _ ≤ _; omega
  cases hs : sndS l
  · have HS : Hid (Calls Tryd.prog 6 #[.slice a l.length c] w fun e w' => e = .returned (.bool false) ∧ w' = w) := by have := sound9_any _ l w HR.out; rwa [hs] at this
    clear hr hgr he
    go_enter Tryd.func4, Tryd.ntmps4
    go_wp2_with (go_at_call 6; refine HS.out.mono ?_; rintro e w1 ⟨rfl, hw1⟩; obtain rfl := hw1.symm)
    go_ret
    exact ⟨rfl, Below.refl _ _⟩
  have HS : Hid (Calls Tryd.prog 6 #[.slice a l.length c] w fun e w' => e = .returned (.bool true) ∧ w' = w) := by have := sound9_any _ l w HR.out; rwa [hs] at this
  have HI : Hid (∀ (z : Int), -9223372036854775808 ≤ z → z ≤ 9223372036854775807 → ∀ W, RowKit.Below w.heap.size w W → Calls Tryd.prog 11 #[.int .i64 z] W fun e w' => e = .returned (.string ⟨(Lib.itoa z).toArray⟩) ∧ RowKit.Below W.heap.size W w') := fun z h0 h1 W h => itoa9_any z h0 h1 W (HE0.out.1.below h)
  have HFm : Hid (∀ x ∈ l, ∀ z ∈ x.2, fmd z = true) := fun x hx z hz => List.all_eq_true.1 (List.all_eq_true.1 hs x hx) z hz
  have HSn : Hid (sndS l = true) := hs
  clear hr hgr he hs hb
  go_enter Tryd.func4, Tryd.ntmps4
  go_wp2_with fail
  refine HS.out.mono ?_
  rintro e w1 ⟨rfl, hw1⟩
  obtain rfl := hw1.symm
  clear HS
  go_wp2
  go_loopg [5, 6, 7] l.length (fun g s5 k6 i7 wr => ∃ (i : Nat) (ts : List Wg), i + g = l.length ∧ i7 = .int .i64 i ∧ k6 = .int .i64 ts.length ∧ s5 = .string ⟨(rendD ts).toArray⟩ ∧ Hid (ts.map Prod.fst = (l.take i).flatMap stpW) ∧ Hid (∀ t ∈ ts, okW9 t.1 ∧ t.2 ∈ gapsD) ∧ Hid (∀ t ∈ ts, t.1.length ≤ 22 ∧ t.2 ∈ gapsD) ∧ RowKit.Below w.heap.size w wr)
  case atStart => exact ⟨0, [], by omega, rfl, rfl, rfl, rfl, fun t ht => (by cases ht), fun t ht => (by cases ht), Below.refl _ _⟩
  case round =>
    obtain ⟨i, ts, hi', rfl, rfl, rfl, HT1, HT2, HT3, bel⟩ := hrel
    have HK : Hid (i + gk = l.length) := hi'
    have hs := bel.size
    by_cases hlt : i < l.length
    · obtain ⟨a', c', e', _, _, hcell⟩ := HR.out.form
      have e3 : a' = a ∧ c' = c := by injection e' with q1 q2 q3; exact ⟨q1.symm, q3.symm⟩
      obtain ⟨rfl, rfl⟩ := e3
      obtain ⟨b, off, uc, rfl, hbl, hd0, hu0, hrd⟩ := hcell i hlt
      have hd := (bel.cell (p := ⟨b, off + i * 2, none⟩) hbl).trans hd0
      have HC : Hid (w.cell? ⟨b, off + i * 2 + 1, none⟩ = some uc) := hu0
      have HM : Hid ((l.take (i + 1)).flatMap stpW = (l.take i).flatMap stpW ++ stpW (l.getD i (false, []))) := ws_more l i hlt
      have HPre := ws_pre l i hlt
      have htl : ts.length = ((l.take i).flatMap stpW).length := by rw [← HT1.out]; simp
      have HN : Hid (ts.length + (stpW (l.getD i (false, []))).length ≤ 2097152) := by have := HWl.out; show _ ≤ _; omega
      obtain ⟨ac, cc, rfl, hcc, hcm, _⟩ := hrd.form
      have HRd : Hid (Rd w (.slice ac (l.getD i (false, [])).2.length cc) (l.getD i (false, [])).2) := hrd
      have HF : Hid (∀ z ∈ (l.getD i (false, [])).2, fmd z = true) := HFm.out _ (getD_mem' hlt)
      clear hi' hcell e' hd0 hu0 hrd HPre htl
      generalize l.getD i (false, []) = xk at *
      obtain ⟨dd, zs⟩ := xk
      have HN1 : Hid (zs.length + 2 ≤ 2097153) := by have := HN.out; unfold stpW at this; simp at this; show _ ≤ _; omega
      have hzn : zs.length + 2 ≤ 2097153 := HN1.out
      have htn : ts.length ≤ 2097152 := by have := HN.out; omega
      dsimp only at *
      have HW0 : Hid (stpW (dd, zs) = ((if dd = true then [[100]] else []) ++ zs.map Lib.itoa) ++ [[48]]) := rfl
      cases dd
      case false =>
        have HWx : Hid (stpW (false, zs) = (([] : List (List UInt8)) ++ zs.map Lib.itoa) ++ [[48]]) := rfl
        have O2 : Hid (OwnW w.heap.size wr (.slice none 0 0) ([] : List (List UInt8))) := World.ownsRow_nil _ _ _ _
        have B2 : Hid (RowKit.Below w.heap.size w wr) := bel
        go_wp2
        go_loopg [8, 9] zs.length (fun g v8 j9 wq => ∃ j : Nat, j + g = zs.length ∧ j9 = .int .i64 j ∧ Hid (OwnW w.heap.size wq v8 (([] : List (List UInt8)) ++ (zs.take j).map Lib.itoa)) ∧ RowKit.Below w.heap.size w wq)
        case atStart => exact ⟨0, by omega, rfl, (by show OwnW _ _ _ _; simpa using O2.out), B2.out⟩
        case round =>
          clear O2 B2 bel hs
          obtain ⟨j, hj, rfl, HO, bel⟩ := hrel
          have HJ : Hid (j + gk = zs.length) := hj
          have hs := bel.size
          have hu := (bel.cell (p := ⟨b, off + i * 2 + 1, none⟩) hbl).trans HC.out
          have hwl : (([] : List (List UInt8)) ++ (zs.take j).map Lib.itoa).length ≤ 2097154 := by simp; omega
          by_cases hjt : j < zs.length
          · obtain ⟨a', c', e', _, _, hcell⟩ := (HRd.out.below bel).form
            have e3 : a' = ac ∧ c' = cc := by injection e' with q1 q2 q3; exact ⟨q1.symm, q3.symm⟩
            obtain ⟨rfl, rfl⟩ := e3
            obtain ⟨b2, off2, rfl, hcj⟩ := hcell j hjt
            have hfm := fmd_range (HF.out _ (getD_mem' (d := 0) hjt))
            have HS : Hid (([] : List (List UInt8)) ++ (zs.take (j + 1)).map Lib.itoa = (([] : List (List UInt8)) ++ (zs.take j).map Lib.itoa) ++ [Lib.itoa (zs.getD j 0)]) := by show _ = _; rw [take_succ_getD zs 0 j hjt]; simp
            clear hj hcell e'
            generalize ([] : List (List UInt8)) ++ (zs.take j).map Lib.itoa = ws at *
            generalize zs.getD j 0 = z at *
            go_wp2_with (first | (go_at_call 11; refine (HI.out z (by omega) (by omega) _ bel).mono ?_; rintro e wI ⟨rfl, belI⟩; refine Hid.out ?_))
            refine Lib.hid ?_
            have bI : RowKit.Below w.heap.size w wI := Below.step bel belI
            have HOI : Hid (OwnW w.heap.size wI _ ws) := World.ownsRow.kept HO.out (grown_below belI) (one_or _)
            have hsI := bI.size
            clear belI
            go_wp2_with (at_builtin; refine wpList_append_own _ rfl _ _ 32 rfl w.heap.size 9 iS (.string ⟨#[]⟩) 1 16 Tryd.underlying32 hi hz0 hz1 hz2 rfl (by decide) _ ws.length (ws.map strV) rfl (World.ownsRow.alloc HOI.out _) _ 1 1 [strV (Lib.itoa z)] rfl rfl (cell_one_new _ _ _) (by simp [Value.oneCell', strV]) (by unfold maxLen; omega) (by omega) (by simp; omega) ?_; intro v3 w3 own3 gr3 hn3)
            go_roundg (gk - 1)
            case measure => have := HJ.out; omega
            case rel => exact ⟨j + 1, by have := HJ.out; omega, by go_num, (by rw [HS.out]; exact OwnW.one own3), (bI.alloc hsI _).grown gr3 (by simp; omega) (fun q hq => (World.ownsRow.lt HOI.out q hq).1)⟩
          · obtain rfl : j = zs.length := by omega
            rw [List.take_length] at HO hwl
            clear hj
            have HO' : Hid (OwnW w.heap.size wr _ (([] : List (List UInt8)) ++ zs.map Lib.itoa)) := HO.out
            generalize ([] : List (List UInt8)) ++ zs.map Lib.itoa = ws0 at *
            go_wp2_with (at_builtin; refine wpList_append_own _ rfl _ _ 32 rfl w.heap.size 9 iS (.string ⟨#[]⟩) 1 16 Tryd.underlying32 hi hz0 hz1 hz2 rfl (by decide) _ ws0.length (ws0.map strV) rfl (World.ownsRow.alloc HO'.out _) _ 1 1 [strV [48]] rfl rfl (cell_one_new _ _ _) (by simp [Value.oneCell', strV]) (by unfold maxLen; omega) (by omega) (by simp; omega) ?_; intro v3 w3 own3 gr3 hn3; obtain ⟨a3, c3, hv3⟩ := row_form2 own3; subst hv3)
            have own3' := OwnW.one own3
            obtain ⟨a4, c4, hv4, hc4, hm4, hcell4⟩ := own3'.form
            have e34 : a4 = a3 := by injection hv4 with q1 q2 q3; exact q1.symm
            have hc3 : ws0.length + 1 ≤ c3 ∧ c3 ≤ maxLen := by injection hv4 with q1 q2 q3; rw [q3]; rw [List.length_append] at hc4; exact ⟨hc4, hm4⟩
            rw [e34] at hcell4
            have B3 : Hid (RowKit.Below w.heap.size w w3) := (bel.alloc hs _).grown gr3 (by simp; omega) (fun q hq => (World.ownsRow.lt HO'.out q hq).1)
            have HWs : Hid (stpW (false, zs) = ws0 ++ [[48]]) := HWx.out
            have HOk : Hid (∀ x ∈ ws0 ++ [[48]], okW9 x ∧ x.length ≤ 22) := fun x hx => by rw [← HWs.out] at hx; exact ⟨okW_stp _ x hx, stpW_each hx HF.out⟩
            have HN2 : Hid (ts.length + (ws0 ++ [[48]]).length ≤ 2097152) := by have := HN.out; rw [HWs.out] at this; exact this
            have HM2 : Hid ((l.take (i + 1)).flatMap stpW = ts.map Prod.fst ++ (ws0 ++ [[48]])) := by show _ = _; rw [HM.out, HT1.out, HWs.out]
            have HCe : Hid (∀ k, k < (ws0 ++ [[48]]).length → ∃ b, a3 = some ⟨b, 0, none⟩ ∧ w3.cell? ⟨b, k, none⟩ = some (.string ⟨((ws0 ++ [[48]]).getD k []).toArray⟩)) := hcell4
            have HNW : Hid ((ws0 ++ [[48]]).length = ws0.length + 1) := by show _ = _; simp
            obtain ⟨hc3a, hc3b⟩ := hc3
            clear own3 own3' gr3 hn3 HO HO' HWx HWs hcell4 HN HM HRd HF hu HW0 hv4 e34 hc4 hm4 a4 c4
            generalize ws0 ++ [[48]] = ws at *
            generalize ws0.length + 1 = nw at *
            have hwl2 : nw ≤ 2097152 := by have := HN2.out; have := HNW.out; omega
            have HCn : Hid (∀ k, k < nw → k < ws.length) := fun k hk => by have := HNW.out; omega
            go_loopg [5, 6, 10] nw (fun g s5 k6 j10 wq => ∃ (j : Nat) (ts' : List Wg), j + g = nw ∧ j10 = .int .i64 j ∧ k6 = .int .i64 ts'.length ∧ s5 = .string ⟨(rendD ts').toArray⟩ ∧ Hid (ts'.map Prod.fst = ts.map Prod.fst ++ ws.take j) ∧ Hid (∀ t ∈ ts', okW9 t.1 ∧ t.2 ∈ gapsD) ∧ Hid (∀ t ∈ ts', t.1.length ≤ 22 ∧ t.2 ∈ gapsD) ∧ wq = w3)
            case atStart => exact ⟨0, ts, by omega, rfl, rfl, rfl, (by show _ = _; simp), HT2.out, HT3.out, rfl⟩
            case round =>
              obtain ⟨j, ts', hj, rfl, rfl, rfl, HU1, HU2, HU3, rfl⟩ := hrel
              have HJ : Hid (j + gk = nw) := hj
              have htl : ts'.length = ts.length + j ∨ ws.length < j := by
                rcases Nat.lt_or_ge ws.length j with h | h
                · exact .inr h
                · have := congrArg List.length HU1.out
                  rw [List.length_append, List.length_map, List.length_map, List.length_take, Nat.min_eq_left h] at this
                  exact .inl this
              have hrl := rendD_len HU3.out
              by_cases hjt : j < nw
              · obtain ⟨bw, rfl, hcw⟩ := HCe.out j (HCn.out j hjt)
                have hok := HOk.out _ (getD_mem' (d := []) (HCn.out j hjt))
                have HSx : Hid (ws.take (j + 1) = ws.take j ++ [ws.getD j []]) := take_succ_getD ws [] j (HCn.out j hjt)
                have hln : ts'.length ≤ 2097152 := by have := HN2.out; have := HCn.out j hjt; omega
                clear hj htl
                generalize ws.getD j [] = wd at *
                obtain ⟨hok1, hok2⟩ := hok
                obtain ⟨Y, hY⟩ : ∃ Y, Y = rendD ts' ++ wd := ⟨_, rfl⟩
                have lY : Y.length = (rendD ts').length + wd.length := by rw [hY]; simp
                have k1 := cat9_run _ _ _ hY (by omega)
                have HSt : Hid (∀ g, g ∈ gapsD → Y ++ g = rendD (ts' ++ [(wd, g)])) := fun g _ => by rw [rendD_snoc, hY]
                have HGo : Hid (∀ g, g ∈ gapsD → (ts' ++ [(wd, g)]).map Prod.fst = ts.map Prod.fst ++ ws.take (j + 1) ∧ (∀ t ∈ ts' ++ [(wd, g)], okW9 t.1 ∧ t.2 ∈ gapsD) ∧ (∀ t ∈ ts' ++ [(wd, g)], t.1.length ≤ 22 ∧ t.2 ∈ gapsD)) := fun g hg => by
                  refine ⟨by rw [List.map_append, HU1.out, HSx.out]; simp, fun t ht => ?_, fun t ht => ?_⟩
                  · rcases List.mem_append.1 ht with ht | ht
                    · exact HU2.out t ht
                    · obtain rfl : t = (wd, g) := by simpa using ht
                      exact ⟨hok1, hg⟩
                  · rcases List.mem_append.1 ht with ht | ht
                    · exact HU3.out t ht
                    · obtain rfl : t = (wd, g) := by simpa using ht
                      exact ⟨hok2, hg⟩
                have HLg : Hid (∀ g ∈ gapsD, g.length ≤ 14) := by show ∀ g ∈ gapsD, g.length ≤ 14; decide
                clear hY hok1
                by_cases hk : ts'.length < gs.length
                · obtain ⟨a', c', e', _, _, hcell⟩ := (HGr.out.below B3.out).form
                  have e3 : a' = ag ∧ c' = cg := by injection e' with q1 q2 q3; exact ⟨q1.symm, q3.symm⟩
                  obtain ⟨rfl, rfl⟩ := e3
                  obtain ⟨b5, off5, rfl, hcg5⟩ := hcell _ hk
                  clear hcell e'
                  generalize gs.getD ts'.length 0 = zg at *
                  generalize hTl : ts'.length = n' at *
                  go_wp2_with (go_at_call 12; refine (gap9_any zg _).mono ?_; rintro e w9 ⟨⟨g, hg, rfl⟩, hw9⟩; obtain rfl := hw9.symm; have k2 := cat9_run Y g _ (HSt.out g hg).symm (by have := HLg.out g hg; omega))
                  go_roundg (gk - 1)
                  case measure => have := HJ.out; omega
                  case rel =>
                    obtain ⟨q1, q2, q3⟩ := HGo.out g hg
                    exact ⟨j + 1, ts' ++ [(wd, g)], by have := HJ.out; omega, by go_num, (by rw [List.length_append, hTl]; go_num), rfl, q1, q2, q3, rfl⟩
                · have k2 := cat9_run Y [32] _ (HSt.out [32] (by decide)).symm (by simp; omega)
                  generalize hTl : ts'.length = n' at *
                  go_wp2
                  go_roundg (gk - 1)
                  case measure => have := HJ.out; omega
                  case rel =>
                    obtain ⟨q1, q2, q3⟩ := HGo.out [32] (by decide)
                    exact ⟨j + 1, ts' ++ [(wd, [32])], by have := HJ.out; omega, by go_num, (by rw [List.length_append, hTl]; go_num), rfl, q1, q2, q3, rfl⟩
              · obtain rfl : j = nw := by omega
                have HU4 : Hid (ts'.map Prod.fst = (l.take (i + 1)).flatMap stpW) := by show _ = _; rw [HU1.out, HM2.out, List.take_of_length_le (by have := HNW.out; omega)]
                clear hj htl hrl
                generalize hTl : ts'.length = n' at *
                go_wp2
                go_roundg (l.length - i - 1)
                case measure => have := HK.out; omega
                case rel => exact ⟨i + 1, ts', by have := HK.out; omega, by go_num, (by rw [hTl]), rfl, HU4.out, HU2.out, HU3.out, B3.out⟩
      case true =>
        have HWx : Hid (stpW (true, zs) = ([[100]] ++ zs.map Lib.itoa) ++ [[48]]) := rfl
        go_wp2_with (at_builtin; refine wpList_append_own _ rfl _ _ 32 rfl w.heap.size 9 iS (.string ⟨#[]⟩) 1 16 Tryd.underlying32 hi hz0 hz1 hz2 rfl (by decide) (.slice none 0 0) 0 [] rfl (World.ownsRow_nil _ _ _ _) _ 1 1 [.string ⟨#[100]⟩] rfl rfl (cell_one_new _ _ _) (by simp [Value.oneCell']) (by unfold maxLen; omega) (by omega) (by simp; omega) ?_; intro v2 w2 own2 gr2 hn2)
        have O2 : Hid (OwnW w.heap.size w2 v2 [[100]]) := own2
        have B2 : Hid (RowKit.Below w.heap.size w w2) := (bel.alloc hs _).grown gr2 (by simp; omega) (fun j hj => by simp [Value.ownBlock] at hj)
        clear own2 gr2 hn2 hd
        go_loopg [8, 9] zs.length (fun g v8 j9 wq => ∃ j : Nat, j + g = zs.length ∧ j9 = .int .i64 j ∧ Hid (OwnW w.heap.size wq v8 ([[100]] ++ (zs.take j).map Lib.itoa)) ∧ RowKit.Below w.heap.size w wq)
        case atStart => exact ⟨0, by omega, rfl, (by show OwnW _ _ _ _; simpa using O2.out), B2.out⟩
        case round =>
          clear O2 B2 bel hs
          obtain ⟨j, hj, rfl, HO, bel⟩ := hrel
          have HJ : Hid (j + gk = zs.length) := hj
          have hs := bel.size
          have hu := (bel.cell (p := ⟨b, off + i * 2 + 1, none⟩) hbl).trans HC.out
          have hwl : ([[100]] ++ (zs.take j).map Lib.itoa).length ≤ 2097154 := by simp; omega
          by_cases hjt : j < zs.length
          · obtain ⟨a', c', e', _, _, hcell⟩ := (HRd.out.below bel).form
            have e3 : a' = ac ∧ c' = cc := by injection e' with q1 q2 q3; exact ⟨q1.symm, q3.symm⟩
            obtain ⟨rfl, rfl⟩ := e3
            obtain ⟨b2, off2, rfl, hcj⟩ := hcell j hjt
            have hfm := fmd_range (HF.out _ (getD_mem' (d := 0) hjt))
            have HS : Hid ([[100]] ++ (zs.take (j + 1)).map Lib.itoa = ([[100]] ++ (zs.take j).map Lib.itoa) ++ [Lib.itoa (zs.getD j 0)]) := by show _ = _; rw [take_succ_getD zs 0 j hjt]; simp
            clear hj hcell e'
            generalize [[100]] ++ (zs.take j).map Lib.itoa = ws at *
            generalize zs.getD j 0 = z at *
            go_wp2_with (first | (go_at_call 11; refine (HI.out z (by omega) (by omega) _ bel).mono ?_; rintro e wI ⟨rfl, belI⟩; refine Hid.out ?_))
            refine Lib.hid ?_
            have bI : RowKit.Below w.heap.size w wI := Below.step bel belI
            have HOI : Hid (OwnW w.heap.size wI _ ws) := World.ownsRow.kept HO.out (grown_below belI) (one_or _)
            have hsI := bI.size
            clear belI
            go_wp2_with (at_builtin; refine wpList_append_own _ rfl _ _ 32 rfl w.heap.size 9 iS (.string ⟨#[]⟩) 1 16 Tryd.underlying32 hi hz0 hz1 hz2 rfl (by decide) _ ws.length (ws.map strV) rfl (World.ownsRow.alloc HOI.out _) _ 1 1 [strV (Lib.itoa z)] rfl rfl (cell_one_new _ _ _) (by simp [Value.oneCell', strV]) (by unfold maxLen; omega) (by omega) (by simp; omega) ?_; intro v3 w3 own3 gr3 hn3)
            go_roundg (gk - 1)
            case measure => have := HJ.out; omega
            case rel => exact ⟨j + 1, by have := HJ.out; omega, by go_num, (by rw [HS.out]; exact OwnW.one own3), (bI.alloc hsI _).grown gr3 (by simp; omega) (fun q hq => (World.ownsRow.lt HOI.out q hq).1)⟩
          · obtain rfl : j = zs.length := by omega
            rw [List.take_length] at HO hwl
            clear hj
            have HO' : Hid (OwnW w.heap.size wr _ ([[100]] ++ zs.map Lib.itoa)) := HO.out
            generalize [[100]] ++ zs.map Lib.itoa = ws0 at *
            go_wp2_with (at_builtin; refine wpList_append_own _ rfl _ _ 32 rfl w.heap.size 9 iS (.string ⟨#[]⟩) 1 16 Tryd.underlying32 hi hz0 hz1 hz2 rfl (by decide) _ ws0.length (ws0.map strV) rfl (World.ownsRow.alloc HO'.out _) _ 1 1 [strV [48]] rfl rfl (cell_one_new _ _ _) (by simp [Value.oneCell', strV]) (by unfold maxLen; omega) (by omega) (by simp; omega) ?_; intro v3 w3 own3 gr3 hn3; obtain ⟨a3, c3, hv3⟩ := row_form2 own3; subst hv3)
            have own3' := OwnW.one own3
            obtain ⟨a4, c4, hv4, hc4, hm4, hcell4⟩ := own3'.form
            have e34 : a4 = a3 := by injection hv4 with q1 q2 q3; exact q1.symm
            have hc3 : ws0.length + 1 ≤ c3 ∧ c3 ≤ maxLen := by injection hv4 with q1 q2 q3; rw [q3]; rw [List.length_append] at hc4; exact ⟨hc4, hm4⟩
            rw [e34] at hcell4
            have B3 : Hid (RowKit.Below w.heap.size w w3) := (bel.alloc hs _).grown gr3 (by simp; omega) (fun q hq => (World.ownsRow.lt HO'.out q hq).1)
            have HWs : Hid (stpW (true, zs) = ws0 ++ [[48]]) := HWx.out
            have HOk : Hid (∀ x ∈ ws0 ++ [[48]], okW9 x ∧ x.length ≤ 22) := fun x hx => by rw [← HWs.out] at hx; exact ⟨okW_stp _ x hx, stpW_each hx HF.out⟩
            have HN2 : Hid (ts.length + (ws0 ++ [[48]]).length ≤ 2097152) := by have := HN.out; rw [HWs.out] at this; exact this
            have HM2 : Hid ((l.take (i + 1)).flatMap stpW = ts.map Prod.fst ++ (ws0 ++ [[48]])) := by show _ = _; rw [HM.out, HT1.out, HWs.out]
            have HCe : Hid (∀ k, k < (ws0 ++ [[48]]).length → ∃ b, a3 = some ⟨b, 0, none⟩ ∧ w3.cell? ⟨b, k, none⟩ = some (.string ⟨((ws0 ++ [[48]]).getD k []).toArray⟩)) := hcell4
            have HNW : Hid ((ws0 ++ [[48]]).length = ws0.length + 1) := by show _ = _; simp
            obtain ⟨hc3a, hc3b⟩ := hc3
            clear own3 own3' gr3 hn3 HO HO' HWx HWs hcell4 HN HM HRd HF hu HW0 hv4 e34 hc4 hm4 a4 c4
            generalize ws0 ++ [[48]] = ws at *
            generalize ws0.length + 1 = nw at *
            have hwl2 : nw ≤ 2097152 := by have := HN2.out; have := HNW.out; omega
            have HCn : Hid (∀ k, k < nw → k < ws.length) := fun k hk => by have := HNW.out; omega
            go_loopg [5, 6, 10] nw (fun g s5 k6 j10 wq => ∃ (j : Nat) (ts' : List Wg), j + g = nw ∧ j10 = .int .i64 j ∧ k6 = .int .i64 ts'.length ∧ s5 = .string ⟨(rendD ts').toArray⟩ ∧ Hid (ts'.map Prod.fst = ts.map Prod.fst ++ ws.take j) ∧ Hid (∀ t ∈ ts', okW9 t.1 ∧ t.2 ∈ gapsD) ∧ Hid (∀ t ∈ ts', t.1.length ≤ 22 ∧ t.2 ∈ gapsD) ∧ wq = w3)
            case atStart => exact ⟨0, ts, by omega, rfl, rfl, rfl, (by show _ = _; simp), HT2.out, HT3.out, rfl⟩
            case round =>
              obtain ⟨j, ts', hj, rfl, rfl, rfl, HU1, HU2, HU3, rfl⟩ := hrel
              have HJ : Hid (j + gk = nw) := hj
              have htl : ts'.length = ts.length + j ∨ ws.length < j := by
                rcases Nat.lt_or_ge ws.length j with h | h
                · exact .inr h
                · have := congrArg List.length HU1.out
                  rw [List.length_append, List.length_map, List.length_map, List.length_take, Nat.min_eq_left h] at this
                  exact .inl this
              have hrl := rendD_len HU3.out
              by_cases hjt : j < nw
              · obtain ⟨bw, rfl, hcw⟩ := HCe.out j (HCn.out j hjt)
                have hok := HOk.out _ (getD_mem' (d := []) (HCn.out j hjt))
                have HSx : Hid (ws.take (j + 1) = ws.take j ++ [ws.getD j []]) := take_succ_getD ws [] j (HCn.out j hjt)
                have hln : ts'.length ≤ 2097152 := by have := HN2.out; have := HCn.out j hjt; omega
                clear hj htl
                generalize ws.getD j [] = wd at *
                obtain ⟨hok1, hok2⟩ := hok
                obtain ⟨Y, hY⟩ : ∃ Y, Y = rendD ts' ++ wd := ⟨_, rfl⟩
                have lY : Y.length = (rendD ts').length + wd.length := by rw [hY]; simp
                have k1 := cat9_run _ _ _ hY (by omega)
                have HSt : Hid (∀ g, g ∈ gapsD → Y ++ g = rendD (ts' ++ [(wd, g)])) := fun g _ => by rw [rendD_snoc, hY]
                have HGo : Hid (∀ g, g ∈ gapsD → (ts' ++ [(wd, g)]).map Prod.fst = ts.map Prod.fst ++ ws.take (j + 1) ∧ (∀ t ∈ ts' ++ [(wd, g)], okW9 t.1 ∧ t.2 ∈ gapsD) ∧ (∀ t ∈ ts' ++ [(wd, g)], t.1.length ≤ 22 ∧ t.2 ∈ gapsD)) := fun g hg => by
                  refine ⟨by rw [List.map_append, HU1.out, HSx.out]; simp, fun t ht => ?_, fun t ht => ?_⟩
                  · rcases List.mem_append.1 ht with ht | ht
                    · exact HU2.out t ht
                    · obtain rfl : t = (wd, g) := by simpa using ht
                      exact ⟨hok1, hg⟩
                  · rcases List.mem_append.1 ht with ht | ht
                    · exact HU3.out t ht
                    · obtain rfl : t = (wd, g) := by simpa using ht
                      exact ⟨hok2, hg⟩
                have HLg : Hid (∀ g ∈ gapsD, g.length ≤ 14) := by show ∀ g ∈ gapsD, g.length ≤ 14; decide
                clear hY hok1
                by_cases hk : ts'.length < gs.length
                · obtain ⟨a', c', e', _, _, hcell⟩ := (HGr.out.below B3.out).form
                  have e3 : a' = ag ∧ c' = cg := by injection e' with q1 q2 q3; exact ⟨q1.symm, q3.symm⟩
                  obtain ⟨rfl, rfl⟩ := e3
                  obtain ⟨b5, off5, rfl, hcg5⟩ := hcell _ hk
                  clear hcell e'
                  generalize gs.getD ts'.length 0 = zg at *
                  generalize hTl : ts'.length = n' at *
                  go_wp2_with (go_at_call 12; refine (gap9_any zg _).mono ?_; rintro e w9 ⟨⟨g, hg, rfl⟩, hw9⟩; obtain rfl := hw9.symm; have k2 := cat9_run Y g _ (HSt.out g hg).symm (by have := HLg.out g hg; omega))
                  go_roundg (gk - 1)
                  case measure => have := HJ.out; omega
                  case rel =>
                    obtain ⟨q1, q2, q3⟩ := HGo.out g hg
                    exact ⟨j + 1, ts' ++ [(wd, g)], by have := HJ.out; omega, by go_num, (by rw [List.length_append, hTl]; go_num), rfl, q1, q2, q3, rfl⟩
                · have k2 := cat9_run Y [32] _ (HSt.out [32] (by decide)).symm (by simp; omega)
                  generalize hTl : ts'.length = n' at *
                  go_wp2
                  go_roundg (gk - 1)
                  case measure => have := HJ.out; omega
                  case rel =>
                    obtain ⟨q1, q2, q3⟩ := HGo.out [32] (by decide)
                    exact ⟨j + 1, ts' ++ [(wd, [32])], by have := HJ.out; omega, by go_num, (by rw [List.length_append, hTl]; go_num), rfl, q1, q2, q3, rfl⟩
              · obtain rfl : j = nw := by omega
                have HU4 : Hid (ts'.map Prod.fst = (l.take (i + 1)).flatMap stpW) := by show _ = _; rw [HU1.out, HM2.out, List.take_of_length_le (by have := HNW.out; omega)]
                clear hj htl hrl
                generalize hTl : ts'.length = n' at *
                go_wp2
                go_roundg (l.length - i - 1)
                case measure => have := HK.out; omega
                case rel => exact ⟨i + 1, ts', by have := HK.out; omega, by go_num, (by rw [hTl]), rfl, HU4.out, HU2.out, HU3.out, B3.out⟩
    · obtain rfl : i = l.length := by omega
      have HP : Hid (parD (rendD ts) = (l, 0)) := by
        have h1 := HT1.out; rw [List.take_length] at h1
        exact par_loose HSn.out h1 HT2.out
      have htl : ts.length ≤ 2097152 := by
        have h1 := HT1.out; rw [List.take_length] at h1
        have := congrArg List.length h1; rw [List.length_map] at this
        have := HWl.out; omega
      have hrl := rendD_len HT3.out
      have HRe : Hid (Calls Tryd.prog 9 #[.string ⟨(rendD ts).toArray⟩] wr fun e w' => ∃ v, e = .returned (.tuple #[v, .int .i64 0, .int .i64 0]) ∧ RdZ w' v l ∧ RowKit.Below wr.heap.size wr w') := by
        have h1 := readD_any ⟨(rendD ts).toArray⟩ wr (by show (rendD ts).length ≤ _; omega) (HE0.out.below bel)
        have h2 : parD (⟨(rendD ts).toArray⟩ : ByteArray).data.toList = (l, 0) := HP.out
        rw [h2] at h1
        exact h1.mono fun e w' ⟨v, q1, q2, q3, q4⟩ => ⟨v, q1, q3, q4⟩
      clear hi' hrl htl HP
      generalize rendD ts = T at *
      go_wp2_with fail
      refine HRe.out.mono ?_
      rintro e w4 ⟨v, rfl, rv, bel4⟩
      have R4 : Hid (RdZ w4 (.slice a l.length c) l) := (HR.out.below bel).below bel4
      obtain ⟨va, vc, hv, _⟩ := rv.form
      have RV : Hid (RdZ w4 v l) := rv
      subst hv
      have HSm : Hid (Calls Tryd.prog 10 #[.slice a l.length c, .slice va l.length vc] w4 fun e w' => e = .returned (.bool true) ∧ RowKit.Below w4.heap.size w4 w') := by
        have := sameSteps_any _ _ l l w4 R4.out RV.out
        rwa [show (l == l) = true from beq_self_eq_true l] at this
      clear rv
      go_wp2_with (go_at_call 10; refine HSm.out.mono ?_; rintro e w5 ⟨rfl, bel5⟩)
      go_ret
      exact ⟨rfl, Below.step (Below.step bel bel4) bel5⟩

end dratLoose
end Go.Proofs.YtfpmmjomccgndabDoor
