/-
  learn, the document's side: reasoned, Formed, False, asked, Level.
  KEEP: len below nil form rd mono one more grown lt size cell some none of ofNat add out step row get at mk new made look put del kept drew alloc has same other map rde take lit lev lstB
-/
import Derived.Test.YtgngdohhlhlcpaaLnR
set_option linter.unusedSimpArgs false
set_option linter.unusedVariables false
namespace Go.Proofs.Ytgngdohhlhlcpaa
open Go Go.RowKit
theorem all_more (q : Int → Bool) (zs : List Int) (k : Nat) (h : k < zs.length) : (zs.take (k + 1)).all q = ((zs.take k).all q && q (zs.getD k 0)) := by
  rw [take_succ_getD zs 0 k h, List.all_append]; simp
theorem all_no {q : Int → Bool} {zs : List Int} {k : Nat} (h : k < zs.length) (hq : q (zs.getD k 0) = false) : zs.all q = false := by
  cases e : zs.all q with
  | false => rfl
  | true =>
    rw [List.all_eq_true] at e
    have := e _ (getD_mem' (l := zs) (k := k) (d := 0) h)
    rw [hq] at this; cases this
set_option maxHeartbeats 1600000 in
theorem rReasoned_any (v : Value) (t : List Ent) (i : Nat) (w : World) (hr : RdE w v t) (hi : i < t.length) :
    Calls Try.prog 45 #[v, .int .i64 (i : Int)] w fun e w' => e = .returned (.bool (rsR (t.take i) (t.getD i e0))) ∧ ∃ m, w' = w.drewN m := by
  have hl := hr.len
  obtain ⟨a, c, rfl, hc, hm, _⟩ := hr.form
  obtain ⟨b, off, u, rfl, hbl, c0, c1, c2, hr2⟩ := hr.at hi
  have hl2 := hr2.len
  have HR2 : Hid (Rd w u (t.getD i e0).2.2) := hr2
  have HRP : Hid (RdE w (.slice (some ⟨b, off, none⟩) i c) (t.take i)) := hr.take i (by omega)
  obtain ⟨ua, uc, rfl, huc, hum, hcell⟩ := hr2.form
  have hin : (i : Int) < (t.length : Int) := by omega
  have HRB : Hid (rsR (t.take i) (t.getD i e0) = ((t.getD i e0).2.2.all fmd && (t.getD i e0).2.2.contains (t.getD i e0).1 && (t.getD i e0).2.2.all (fun y => y == (t.getD i e0).1 || (plc (t.take i) y).isSome))) := rfl
  obtain ⟨RB, hRB⟩ : ∃ RB, rsR (t.take i) (t.getD i e0) = RB := ⟨_, rfl⟩
  rw [hRB] at HRB ⊢
  clear hr hRB c1 hr2
  generalize t.take i = p at *
  generalize t.getD i e0 = en at *
  obtain ⟨lt, lv, zs⟩ := en
  dsimp only at *
  have HC : Hid (∀ k, k < zs.length → ∃ b off, ua = some ⟨b, off, none⟩ ∧ w.cell? ⟨b, off + k, none⟩ = some (.int .i64 (zs.getD k 0))) := hcell
  clear hcell
  have HSo : Hid (Calls Try.prog 42 #[.slice ua zs.length uc] w fun e w' => e = .returned (.bool (zs.all fmd)) ∧ w' = w) := rSound15_any _ zs w HR2.out
  have HHa : Hid (Calls Try.prog 41 #[.slice ua zs.length uc, .int .i64 lt] w fun e w' => e = .returned (.bool (zs.contains lt)) ∧ w' = w) := hasInt15_any _ zs lt w HR2.out
  cases hs : zs.all fmd
  · have HF : Hid (RB = false) := by show _ = _; rw [HRB.out, hs]; rfl
    rw [hs] at HSo
    clear hs HHa HRB HC
    go_enter Try.func45, Try.ntmps45
    go_wp2_with (first | (go_at_call 42; refine HSo.out.mono ?_; rintro e w' ⟨rfl, hw⟩; obtain rfl := hw.symm))
    go_ret
    exact ⟨ret_bool HF.out.symm, 0, rfl⟩
  cases hh : zs.contains lt
  · have HF : Hid (RB = false) := by show _ = _; rw [HRB.out, hs, hh]; rfl
    rw [hs] at HSo
    rw [hh] at HHa
    clear hs hh HRB HC
    go_enter Try.func45, Try.ntmps45
    go_wp2_with (first | (go_at_call 42; refine HSo.out.mono ?_; rintro e w' ⟨rfl, hw⟩; obtain rfl := hw.symm) | (go_at_call 41; refine HHa.out.mono ?_; rintro e w' ⟨rfl, hw⟩; obtain rfl := hw.symm))
    go_ret
    exact ⟨ret_bool HF.out.symm, 0, rfl⟩
  have HFm : Hid (zs.all fmd = true) := hs
  have HR3 : Hid (RB = zs.all (fun y => y == lt || (plc p y).isSome)) := by show _ = _; rw [HRB.out, hs, hh]; rfl
  rw [hs] at HSo
  rw [hh] at HHa
  clear hs hh HRB
  go_enter Try.func45, Try.ntmps45
  go_wp2_with (first | (go_at_call 42; refine HSo.out.mono ?_; rintro e w' ⟨rfl, hw⟩; obtain rfl := hw.symm) | (go_at_call 41; refine HHa.out.mono ?_; rintro e w' ⟨rfl, hw⟩; obtain rfl := hw.symm))
  go_loopg [6] zs.length (fun g j wr => ∃ (k m : Nat), k + g = zs.length ∧ j = .int .i64 k ∧ (zs.take k).all (fun y => y == lt || (plc p y).isSome) = true ∧ wr = w.drewN m)
  case atStart => exact ⟨0, 0, by omega, rfl, rfl, rfl⟩
  case round =>
    obtain ⟨k, m, hk, rfl, hall, rfl⟩ := hrel
    have HA : Hid ((zs.take k).all (fun y => y == lt || (plc p y).isSome) = true) := hall
    have HK : Hid (k + gk = zs.length) := hk
    clear hall
    by_cases hlt : k < zs.length
    · obtain ⟨b2, off2, rfl, hck⟩ := HC.out k hlt
      have hfy : fmd (zs.getD k 0) = true := (List.all_eq_true.1 HFm.out) _ (getD_mem' hlt)
      have HM := all_more (fun y => y == lt || (plc p y).isSome) zs k hlt
      have HN : Hid ((zs.getD k 0 == lt || (plc p (zs.getD k 0)).isSome) = false → RB = false) := fun h => by rw [HR3.out]; exact all_no hlt h
      have HPl : Hid (∀ j, Calls Try.prog 37 #[.slice (some ⟨b, off, none⟩) i c, .int .i64 (zs.getD k 0)] ((w.drewN m).drewN j) fun e w' => e = .returned (.int .i64 (plI p (zs.getD k 0))) ∧ w' = (w.drewN m).drewN j) := fun j => rPlace_any _ p _ _ ((HRP.out.drewN m).drewN j) hfy
      have hpr := plI_lt p (zs.getD k 0)
      have HM2 : Hid ((zs.getD k 0 == lt || (plc p (zs.getD k 0)).isSome) = true → (zs.take (k + 1)).all (fun y => y == lt || (plc p y).isSome) = true) := fun h => by rw [HM, HA.out]; exact h
      have c0' : (w.drewN m).cell? ⟨b, off + i * 3, none⟩ = some (.int .i64 lt) := c0
      have hck' : (w.drewN m).cell? ⟨b2, off2 + k, none⟩ = some (.int .i64 (zs.getD k 0)) := hck
      have HW : Hid (∀ n, ∃ q, (w.drewN m).drewN n = w.drewN q) := fun n => ⟨m + n, World.drewN_drewN _ _ _⟩
      clear hk HM hfy c0 hck c2
      generalize zs.getD k 0 = y at *
      generalize plI p y = pi at *
      generalize w.drewN m = wm at *
      by_cases he : y = lt
      · have HT : Hid ((zs.take (k + 1)).all (fun y => y == lt || (plc p y).isSome) = true) := HM2.out (by rw [he]; simp)
        have heb : (y == lt) = true := by simpa using he
        go_upto_region 7 with fail
        go_quiet ((go_at_call 37; exact Calls.quiet_of_same (HPl.out _)))
        go_wp2_with fail
        go_roundg (gk - 1)
        case measure => have := HK.out; omega
        case rel =>
          obtain ⟨q, hq⟩ := HW.out nq
          exact ⟨k + 1, q, by have := HK.out; omega, by go_num, HT.out, hq⟩
      · have heb : (y == lt) = false := by simpa using he
        have hne : (y != lt) = true := by rw [bne, heb]; rfl
        have hic : (i : Int) ≤ (c : Int) := by omega
        cases hpl : (plc p y).isSome
        · have HF : Hid (RB = false) := HN.out (by rw [heb, hpl]; rfl)
          have hneg : pi < 0 := by rw [show (plc p y).isNone = !(plc p y).isSome by cases plc p y <;> rfl, hpl] at hpr; simpa using hpr
          clear hpr HN HM2
          go_upto_region 7 with fail
          go_quiet ((go_at_call 37; exact Calls.quiet_of_same (HPl.out _)))
          go_wp2_with fail
          go_ret
          exact ⟨ret_bool HF.out.symm, HW.out _⟩
        · have HT : Hid ((zs.take (k + 1)).all (fun y => y == lt || (plc p y).isSome) = true) := HM2.out (by rw [hpl]; simp)
          have hneg : ¬ pi < 0 := by rw [show (plc p y).isNone = !(plc p y).isSome by cases plc p y <;> rfl, hpl] at hpr; simpa using hpr
          clear hpr HN HM2
          go_upto_region 7 with fail
          go_quiet ((go_at_call 37; exact Calls.quiet_of_same (HPl.out _)))
          go_wp2_with fail
          go_roundg (gk - 1)
          case measure => have := HK.out; omega
          case rel =>
            obtain ⟨q, hq⟩ := HW.out nq
            exact ⟨k + 1, q, by have := HK.out; omega, by go_num, HT.out, hq⟩
    · obtain rfl : k = zs.length := by omega
      have HE : Hid (RB = true) := by have := HA.out; rw [List.take_length] at this; show _ = _; rw [HR3.out]; exact this
      clear hk
      go_wp2
      go_ret
      exact ⟨ret_bool HE.out.symm, m, rfl⟩

/-- okE by its parts, as the document asks them -/
theorem okE_ref {p : List Ent} (h : Ws p) (e : Ent) : okE p e = (fmd e.1 && ((plc p e.1).isNone && (plc p (-e.1)).isNone) && lvB p e && (e.2.2.length == 0 || rsR p e)) := by
  unfold okE
  cases hf : fmd e.1
  · rfl
  · rw [vpl_both h hf, rs_same h hf]
theorem decide_lt_no {x : Int} {b : Bool} (h : decide (x < 0) = b) : (0 ≤ x) ↔ b = false := by
  subst h; simp

set_option maxHeartbeats 3200000 in
theorem r15Formed_any (v : Value) (t : List Ent) (w : World) (hr : RdE w v t) :
    Calls Try.prog 17 #[v] w fun e w' => e = .returned (.bool (frmE t)) ∧ ∃ m, w' = w.drewN m := by
  have hl := hr.len
  have HR : Hid (RdE w v t) := hr
  obtain ⟨a, c, rfl, hc, hm, _⟩ := hr.form
  clear hr
  go_enter Try.func17, Try.ntmps17
  go_wp2
  go_loopg [3] t.length (fun g i wr => ∃ (k m : Nat), k + g = t.length ∧ i = .int .i64 k ∧ Ws (t.take k) ∧ wr = w.drewN m)
  case atStart => exact ⟨0, 0, by omega, rfl, Ws.nil, rfl⟩
  case round =>
    obtain ⟨k, m, hk, rfl, hws, rfl⟩ := hrel
    have HA : Hid (Ws (t.take k)) := hws
    have HK : Hid (k + gk = t.length) := hk
    by_cases hlt : k < t.length
    · have HRm : Hid (RdE (w.drewN m) (.slice a t.length c) t) := HR.out.drewN m
      obtain ⟨b, off, u, rfl, hbl, c0, c1, c2, hr2⟩ := HRm.out.at hlt
      have hl2 := hr2.len
      obtain ⟨ua, uc, rfl, huc, hum, _⟩ := hr2.form
      have hls := hws.lstB
      have hlen : (t.take k).length = k := by simp; omega
      rw [hlen] at hls
      have HO : Hid (okE (t.take k) (t.getD k e0) = (fmd (t.getD k e0).1 && ((plc (t.take k) (t.getD k e0).1).isNone && (plc (t.take k) (-(t.getD k e0).1)).isNone) && lvB (t.take k) (t.getD k e0) && ((t.getD k e0).2.2.length == 0 || rsR (t.take k) (t.getD k e0)))) := okE_ref hws _
      have HNo : Hid (okE (t.take k) (t.getD k e0) = false → frmE t = false) := frmE_no hlt
      have HYes : Hid (okE (t.take k) (t.getD k e0) = true → Ws (t.take (k + 1))) := fun h => (ws_snoc hlt).2 ⟨HA.out, h⟩
      have HPl : Hid (∀ x, fmd x = true → Calls Try.prog 37 #[.slice (some ⟨b, off, none⟩) k c, .int .i64 x] (w.drewN m) fun e w' => e = .returned (.int .i64 (plI (t.take k) x)) ∧ w' = w.drewN m) := fun x hx => rPlace_any _ (t.take k) x _ (HRm.out.take k (by omega)) hx
      have HLv : Hid (Calls Try.prog 44 #[.slice (some ⟨b, off, none⟩) t.length c, .int .i64 (k : Int)] (w.drewN m) fun e w' => e = .returned (.bool (lvB (t.take k) (t.getD k e0))) ∧ w' = w.drewN m) := rLeveled_any _ t k _ HRm.out hlt (by omega)
      have HRe : Hid (Calls Try.prog 45 #[.slice (some ⟨b, off, none⟩) t.length c, .int .i64 (k : Int)] (w.drewN m) fun e w' => e = .returned (.bool (rsR (t.take k) (t.getD k e0))) ∧ ∃ n, w' = (w.drewN m).drewN n) := rReasoned_any _ t k _ HRm.out hlt
      have HW : Hid (∀ n, ∃ q, (w.drewN m).drewN n = w.drewN q) := fun n => ⟨m + n, World.drewN_drewN _ _ _⟩
      have HW0 : Hid (∃ q, w.drewN m = w.drewN q) := ⟨m, rfl⟩
      clear hk hls hlen hr2 c1 hws
      have hpl1 := plI_lt (t.take k) (t.getD k e0).1
      have hpl2 := plI_lt (t.take k) (-(t.getD k e0).1)
      generalize t.take k = p at *
      generalize okE p (t.getD k e0) = ok at *
      generalize lvB p (t.getD k e0) = LB at *
      generalize rsR p (t.getD k e0) = RB at *
      generalize t.getD k e0 = en at *
      obtain ⟨lt, lv, zs⟩ := en
      dsimp only at *
      generalize w.drewN m = wm at *
      have HFo : Hid (Calls Try.prog 43 #[.int .i64 lt] wm fun e w' => e = .returned (.bool (fmd lt)) ∧ w' = wm) := refFormed_any _ _
      cases hf : fmd lt
      · have HF : Hid (frmE t = false) := HNo.out (by rw [HO.out, hf]; rfl)
        rw [hf] at HFo
        clear HPl HLv HRe HO HNo HYes hpl1 hpl2 hf
        go_wp2_with (first | (go_at_call 43; refine HFo.out.mono ?_; rintro e w' ⟨rfl, hw⟩; obtain rfl := hw.symm))
        go_ret
        exact ⟨ret_bool HF.out.symm, HW0.out⟩
      have HP1 : Hid (Calls Try.prog 37 #[.slice (some ⟨b, off, none⟩) k c, .int .i64 lt] wm fun e w' => e = .returned (.int .i64 (plI p lt)) ∧ w' = wm) := HPl.out lt hf
      have HP2 : Hid (Calls Try.prog 37 #[.slice (some ⟨b, off, none⟩) k c, .int .i64 (-lt)] wm fun e w' => e = .returned (.int .i64 (plI p (-lt))) ∧ w' = wm) := HPl.out (-lt) (fmd_neg hf)
      have hlr := fmd_range hf
      have hwr : IntKind.i64.wrap (-lt) = -lt := by rw [IntKind.wrap_i64]; omega
      rw [hf] at HFo HO
      clear HPl hf
      generalize plI p = pv at *
      have HPP : Hid (∀ x, x = lt ∨ x = -lt → Calls Try.prog 37 #[.slice (some ⟨b, off, none⟩) k c, .int .i64 x] wm fun e w' => e = .returned (.int .i64 (pv x)) ∧ w' = wm) := fun x hx => by
        rcases hx with hx | hx
        · rw [hx]; exact HP1.out
        · rw [hx]; exact HP2.out
      clear HP1 HP2
      cases h1 : (plc p lt).isNone
      · have HF : Hid (frmE t = false) := HNo.out (by rw [HO.out, h1]; rfl)
        have hp1 : 0 ≤ pv lt := by rw [h1] at hpl1; simpa using hpl1
        clear HLv HRe HO HNo HYes hpl1 hpl2
        go_wp2_with (first | (go_at_call 43; refine HFo.out.mono ?_; rintro e w' ⟨rfl, hw⟩; obtain rfl := hw.symm) | (go_at_call 37; refine (HPP.out _ (by first | exact .inl rfl | exact .inr rfl)).mono ?_; rintro e w' ⟨rfl, hw⟩; obtain rfl := hw.symm))
        go_ret
        exact ⟨ret_bool HF.out.symm, HW0.out⟩
      have hp1 : ¬ 0 ≤ pv lt := by rw [h1] at hpl1; simpa using hpl1
      cases h2 : (plc p (-lt)).isNone
      · have HF : Hid (frmE t = false) := HNo.out (by rw [HO.out, h1, h2]; rfl)
        have hp2 : 0 ≤ pv (-lt) := by rw [h2] at hpl2; simpa using hpl2
        clear HLv HRe HO HNo HYes hpl1 hpl2
        go_wp2_with (first | (go_at_call 43; refine HFo.out.mono ?_; rintro e w' ⟨rfl, hw⟩; obtain rfl := hw.symm) | (go_at_call 37; refine (HPP.out _ (by first | exact .inl rfl | exact .inr rfl)).mono ?_; rintro e w' ⟨rfl, hw⟩; obtain rfl := hw.symm))
        go_ret
        exact ⟨ret_bool HF.out.symm, HW0.out⟩
      have hp2 : ¬ 0 ≤ pv (-lt) := by rw [h2] at hpl2; simpa using hpl2
      rw [h1, h2] at HO
      clear hpl1 hpl2 h1 h2
      cases LB
      · have HF : Hid (frmE t = false) := HNo.out (by rw [HO.out]; rfl)
        clear HRe HO HNo HYes
        go_wp2_with (first | (go_at_call 43; refine HFo.out.mono ?_; rintro e w' ⟨rfl, hw⟩; obtain rfl := hw.symm) | (go_at_call 44; refine HLv.out.mono ?_; rintro e w' ⟨rfl, hw⟩; obtain rfl := hw.symm) | (go_at_call 37; refine (HPP.out _ (by first | exact .inl rfl | exact .inr rfl)).mono ?_; rintro e w' ⟨rfl, hw⟩; obtain rfl := hw.symm))
        go_ret
        exact ⟨ret_bool HF.out.symm, HW0.out⟩
      by_cases hz : zs.length = 0
      · have HT : Hid (Ws (t.take (k + 1))) := HYes.out (by rw [HO.out, hz]; rfl)
        rw [hz] at c2
        clear HRe HO HNo HYes
        go_wp2_with (first | (go_at_call 43; refine HFo.out.mono ?_; rintro e w' ⟨rfl, hw⟩; obtain rfl := hw.symm) | (go_at_call 44; refine HLv.out.mono ?_; rintro e w' ⟨rfl, hw⟩; obtain rfl := hw.symm) | (go_at_call 37; refine (HPP.out _ (by first | exact .inl rfl | exact .inr rfl)).mono ?_; rintro e w' ⟨rfl, hw⟩; obtain rfl := hw.symm))
        go_roundg (gk - 1)
        case measure => have := HK.out; omega
        case rel =>
          obtain ⟨q, hq⟩ := HW0.out
          exact ⟨k + 1, q, by have := HK.out; omega, by go_num, HT.out, hq⟩
      have hz' : 0 < zs.length := by omega
      have HO2 : Hid (ok = RB) := by
        show ok = RB
        have h := HO.out
        rw [show (zs.length == 0) = false by simpa using hz] at h
        simpa using h
      clear HO
      cases RB
      · have HF : Hid (frmE t = false) := HNo.out HO2.out
        clear HO2 HNo HYes
        go_wp2_with (first | (go_at_call 43; refine HFo.out.mono ?_; rintro e w' ⟨rfl, hw⟩; obtain rfl := hw.symm) | (go_at_call 44; refine HLv.out.mono ?_; rintro e w' ⟨rfl, hw⟩; obtain rfl := hw.symm) | (go_at_call 45; refine HRe.out.mono ?_; rintro e w' ⟨rfl, nn, hw⟩; obtain rfl := hw) | (go_at_call 37; refine (HPP.out _ (by first | exact .inl rfl | exact .inr rfl)).mono ?_; rintro e w' ⟨rfl, hw⟩; obtain rfl := hw.symm))
        go_ret
        exact ⟨ret_bool HF.out.symm, HW.out _⟩
      · have HT : Hid (Ws (t.take (k + 1))) := HYes.out HO2.out
        clear HO2 HNo HYes
        go_wp2_with (first | (go_at_call 43; refine HFo.out.mono ?_; rintro e w' ⟨rfl, hw⟩; obtain rfl := hw.symm) | (go_at_call 44; refine HLv.out.mono ?_; rintro e w' ⟨rfl, hw⟩; obtain rfl := hw.symm) | (go_at_call 45; refine HRe.out.mono ?_; rintro e w' ⟨rfl, nn, hw⟩; obtain rfl := hw) | (go_at_call 37; refine (HPP.out _ (by first | exact .inl rfl | exact .inr rfl)).mono ?_; rintro e w' ⟨rfl, hw⟩; obtain rfl := hw.symm))
        go_roundg (gk - 1)
        case measure => have := HK.out; omega
        case rel =>
          obtain ⟨q, hq⟩ := HW.out nn
          exact ⟨k + 1, q, by have := HK.out; omega, by go_num, HT.out, hq⟩
    · obtain rfl : k = t.length := by omega
      have HE : Hid (frmE t = true) := HA.out.end
      clear hk hws
      go_wp2
      go_ret
      exact ⟨ret_bool HE.out.symm, m, rfl⟩
end Go.Proofs.Ytgngdohhlhlcpaa
