/-
  The document's Tidy, walked.
-/
import Derived.Test.YtbnnoajpmmbpbaaDoorTidyP
import Derived.Test.YtbnnoajpmmbpbaaDoorFormAns
import Derived.Test.YtbnnoajpmmbpbaaDoorRefT
import Derived.Deep.RegionWith
import Derived.Lib.Hide
set_option linter.unusedSimpArgs false
set_option linter.unusedVariables false
namespace Go.Proofs.YtbnnoajpmmbpbaaDoor
open Go.RowKit

/-- is a clause the same as one of the first m -/
def agK (css : List (List Int)) (z : List Int) (m : Nat) : Bool := (List.range m).any (fun j => tid (css.getD j []) == tid z)
theorem agK_more (css : List (List Int)) (z : List Int) (m : Nat) : agK css z (m + 1) = (agK css z m || (tid (css.getD m []) == tid z)) := by
  unfold agK; rw [List.range_succ, List.any_append]; simp
theorem agK_td {css : List (List Int)} {z : List Int} {k : Nat} (h : adj (tid z) = false) : agK css z k = (tdK css k).contains (tid z) := by
  rw [Bool.eq_iff_iff, List.contains_iff_mem, tdK_mem]
  unfold agK
  rw [List.any_eq_true]
  constructor
  · rintro ⟨j, hj, e⟩; exact ⟨h, j, List.mem_range.1 hj, beq_iff_eq.1 e⟩
  · rintro ⟨_, j, hj, e⟩; exact ⟨j, List.mem_range.2 hj, beq_iff_eq.2 e⟩

set_option maxHeartbeats 3200000 in
set_option maxRecDepth 100000 in
theorem rTidyF_any (n : Int) (s : Value) (css : List (List Int)) (w : World) (hr : Rds w s css) :
    Calls Tryd.prog 7 #[.agg #[.int .i64 n, s]] w fun e w' => ∃ s', e = .returned (.tuple #[.agg #[.int .i64 (tdF n css).1, s'], .int .i64 (tdF n css).2.2]) ∧ OwnF w.heap.size w' s' (tdF n css).2.1 ∧ Below w.heap.size w w' := by
  have HX : Hid (En w n s css ((w.alloc (.cells #[.int .i64 n, s] 24)).alloc (.cells #[.int .i64 0, .slice none 0 0] 24))) := En.new hr
  clear hr
  cases hf : frm n css
  case false =>
    have HU : Hid (tdF n css = (0, [], 1)) := by unfold tdF Hid; rw [hf]; rfl
    go_enter Tryd.func7, Tryd.ntmps7
    go_wp2_with fail
    generalize (w.alloc (.cells #[.int .i64 n, s] 24)).alloc (.cells #[.int .i64 0, .slice none 0 0] 24) = W0 at *
    refine (rFormed_any n s css _ HX.out.bx.rd).mono ?_
    rw [hf]
    rintro e w1 ⟨rfl, bel1⟩
    have HX1 : Hid (En w n s css w1) := HX.out.on bel1
    have a0 := HX1.out.ans.c0
    have a1 := HX1.out.ans.c1
    have f0 := HX1.out.ans.f0
    have f1 := HX1.out.ans.f1
    clear HX bel1
    go_wp2
    try simp only [Exit.inBlock, Exit.then]
    refine bodyPost_ret (ret_form rfl rfl ((HX1.out.ans.set0 _).set1 _)) rfl ?_
    exact ⟨_, by rw [HU.out]; rfl, by rw [HU.out]; exact OwnF.nil _ _, below_set (below_set HX1.out.bx.bel (by omega) _ _) (by omega) _ _⟩
  have HU : Hid (tdF n css = (n, tdK css css.length, 0)) := by unfold tdF Hid; rw [hf]; rfl
  have HFm : Hid (∀ k, k < css.length → (css.getD k []).all fmd = true) := fun k hk => by
    unfold frm at hf; simp only [Bool.and_eq_true] at hf
    have := List.all_eq_true.1 hf.2 _ (getD_mem' (d := []) hk)
    rw [List.all_eq_true]; intro x hx
    have := List.all_eq_true.1 this x hx
    simp only [Bool.and_eq_true] at this; exact this.1
  obtain ⟨il, hil, hzl0, hzl1, hzl2⟩ := info_parts infoR
  have hlc := HX.out.bx.rd.len
  obtain ⟨sa, sc, rfl, hcs, hms, _⟩ := HX.out.bx.rd.form
  go_enter Tryd.func7, Tryd.ntmps7
  go_wp2_with fail
  generalize (w.alloc (.cells #[.int .i64 n, .slice sa css.length sc] 24)).alloc (.cells #[.int .i64 0, .slice none 0 0] 24) = W0 at *
  refine (rFormed_any n _ css _ HX.out.bx.rd).mono ?_
  rw [hf]
  rintro e w1 ⟨rfl, bel1⟩
  have HX1 : Hid (En w n (.slice sa css.length sc) css w1) := HX.out.on bel1
  clear HX bel1 hf
  have c0 := HX1.out.bx.c0
  go_wp2
  clear c0
  go_loopg [5] css.length (fun g i wq => ∃ (k : Nat) (L : List Cls) (rv : Value), k + g = css.length ∧ i = .int .i64 k ∧ L.length ≤ k ∧ L.map Prod.snd = tdK css k ∧ Hid (Bd w1 n wq rv L))
  case atStart => exact ⟨0, [], _, by omega, rfl, Nat.le_refl _, by simp [tdK], Bd.start _ _⟩
  case round =>
    obtain ⟨k, L, rv, hk, rfl, hLk, hL, HB⟩ := hrel
    have HK : Hid (k + gk = css.length) := hk
    have HL : Hid (L.map Prod.snd = tdK css k) := hL
    have HXq : Hid (En w n (.slice sa css.length sc) css wr) := HX1.out.on HB.out.bel
    have sz := HB.out.bel.size
    have x1 := HXq.out.bx.c1
    clear hL
    by_cases hlt : k < css.length
    · obtain ⟨b, off, u, rfl, hck, hu0⟩ := HXq.out.bx.at hlt
      have HUq : Hid (Rd wr u (css.getD k [])) := hu0
      have HS : Hid (tdK css (k + 1) = if adj (tid (css.getD k [])) || (tdK css k).contains (tid (css.getD k [])) then tdK css k else tdK css k ++ [tid (css.getD k [])]) := rfl
      have HFk : Hid ((css.getD k []).all fmd = true) := HFm.out k hlt
      obtain ⟨_, ua, uc, hu, huc, hum, _⟩ := hu0
      have HCK : Hid (wr.cell? ⟨b, off + k, none⟩ = some u) := hck
      have HBb : Hid (b < wr.heap.size) := World.block_lt_of_cell? wr _ hck
      have HA0 : Hid (∀ m, m < css.length → ∃ zv zj, wr.cell? ⟨b, off + m, none⟩ = some zv ∧ Rd wr zv zj ∧ zj.all fmd = true ∧ zj = css.getD m []) := fun m hm => by
        obtain ⟨b', off', u', e', h1, h2⟩ := HXq.out.bx.at hm
        cases e'
        exact ⟨u', _, h1, h2, HFm.out m hm, rfl⟩
      have HAG : Hid (∀ m, agK css (css.getD k []) (m + 1) = (agK css (css.getD k []) m || (tid (css.getD m []) == tid (css.getD k [])))) := fun m => agK_more _ _ _
      have HTD : Hid (adj (tid (css.getD k [])) = false → agK css (css.getD k []) k = (tdK css k).contains (tid (css.getD k []))) := agK_td
      clear hk
      generalize css.getD k [] = z at *
      subst hu
      have HKg : Hid (k + gk = css.length) := HK.out
      generalize gk = gg at *
      generalize wr = wo at *
      have htl := tid_len z
      go_wp2_with fail
      refine (refTaut_any _ z wo HUq.out).mono ?_
      rintro e w3 ⟨rfl, bel3⟩
      have BL3 : Hid (Below wo.heap.size wo w3) := bel3
      have s3 := bel3.size
      cases hadj : adj (tid z)
      case true =>
        have HS2 : Hid (tdK css (k + 1) = tdK css k) := by have := HS.out; rw [hadj] at this; exact this
        clear bel3 x1 hck
        go_wp2
        go_roundg (gg - 1)
        case measure => have := HKg.out; omega
        case rel => exact ⟨k + 1, L, rv, by have := HKg.out; omega, by go_num, by omega, by rw [HS2.out]; exact HL.out, HB.out.on BL3.out⟩
      clear bel3 x1 hck
      go_wp2
      go_loopg [6, 7] k (fun g ag j wi => ∃ m : Nat, m + g = k ∧ j = .int .i64 m ∧ ag = .bool (agK css z m) ∧ Below wo.heap.size wo wi)
      case atStart => exact ⟨0, by omega, rfl, by simp [agK], BL3.out⟩
      case round =>
        obtain ⟨m, hm, rfl, rfl, bel⟩ := hrel
        have HM2 : Hid (m + gk = k) := hm
        have HXi : Hid (En w n (.slice (some ⟨b, off, none⟩) css.length sc) css wr) := HXq.out.on bel
        have y1 := HXi.out.bx.c1
        have hck : wr.cell? ⟨b, off + k, none⟩ = some (.slice ua z.length uc) := (bel.cell (p := ⟨b, off + k, none⟩) HBb.out).trans HCK.out
        have HUi : Hid (Rd wr (.slice ua z.length uc) z) := HUq.out.below bel
        have HBL : Hid (Below wo.heap.size wo wr) := bel
        have si := bel.size
        by_cases hmt : m < k
        · obtain ⟨zv, zj, hcj0, hrj0, hfj, hzj⟩ := HA0.out m (by omega)
          have hcj : wr.cell? ⟨b, off + m, none⟩ = some zv := (bel.cell (p := ⟨b, off + m, none⟩) HBb.out).trans hcj0
          have HRj : Hid (Rd wr zv zj) := hrj0.below bel
          have HMo : Hid (agK css z (m + 1) = (agK css z m || (tid zj == tid z))) := by rw [hzj]; exact HAG.out m
          obtain ⟨_, ja, jc, hjv, _⟩ := hrj0
          subst hjv
          have hmc : m < css.length := by omega
          have HQ : Hid ((zj.all fmd && z.all fmd && (tid zj == tid z)) = (tid zj == tid z)) := by unfold Hid; rw [hfj, HFk.out]; rfl
          clear hm hcj0 hzj hfj bel
          generalize agK css z m = ag at *
          cases hq : (tid zj == tid z)
          · have HQ2 : Hid ((zj.all fmd && z.all fmd && (tid zj == tid z)) = false) := HQ.out.trans hq
            rw [hq] at HMo
            clear hq
            go_wp2
            go_region_with (go_at_call 22; refine (refSame_any _ _ zj z _ (HRj.out.below (Below.refl _ _).drew) (HUi.out.below (Below.refl _ _).drew)).mono ?_; rw [HQ2.out]; rintro e w9 ⟨rfl, bel9⟩)
            all_goals
              go_wp2
              go_roundg (gk - 1)
              case measure => have := HM2.out; omega
              case rel => exact ⟨m + 1, by have := HM2.out; omega, by go_num, by rw [HMo.out]; cases ag <;> rfl, HBL.out.trans ((Below.step (Below.refl _ _).drew bel9).mono HBL.out.size)⟩
          · have HQ2 : Hid ((zj.all fmd && z.all fmd && (tid zj == tid z)) = true) := HQ.out.trans hq
            rw [hq] at HMo
            clear hq
            go_wp2
            go_region_with (go_at_call 22; refine (refSame_any _ _ zj z _ (HRj.out.below (Below.refl _ _).drew) (HUi.out.below (Below.refl _ _).drew)).mono ?_; rw [HQ2.out]; rintro e w9 ⟨rfl, bel9⟩)
            all_goals
              go_wp2
              go_roundg (gk - 1)
              case measure => have := HM2.out; omega
              case rel => exact ⟨m + 1, by have := HM2.out; omega, by go_num, by rw [HMo.out]; cases ag <;> rfl, HBL.out.trans ((Below.step (Below.refl _ _).drew bel9).mono HBL.out.size)⟩
        · have e : m = k := by omega
          subst e
          have hag := HTD.out hadj
          have hmz : decide ((m : Int) < (m : Int)) = false := by simp
          clear hm hmt
          cases hc : (tdK css m).contains (tid z)
          case true =>
            have HS2 : Hid (tdK css (m + 1) = tdK css m) := by have := HS.out; rw [hadj, hc] at this; exact this
            rw [hag, hc]
            clear hag
            go_wp2
            go_roundg (gg - 1)
            case measure => have := HKg.out; omega
            case rel => exact ⟨m + 1, L, rv, by have := HKg.out; omega, by go_num, by omega, by rw [HS2.out]; exact HL.out, HB.out.on HBL.out⟩
          have HS2 : Hid (tdK css (m + 1) = tdK css m ++ [tid z]) := by have := HS.out; rw [hadj, hc] at this; exact this
          rw [hag, hc]
          clear hag bel
          go_wp2_with fail
          refine (refTidy _ z wr HUi.out).mono ?_
          rintro e w5 ⟨u5, rfl, own5, bel5⟩
          have O5 : Hid (Own wo.heap.size w5 u5 (tid z)) := own5.mono si
          have BL5 : Hid (Below wo.heap.size wo w5) := HBL.out.trans (bel5.mono si)
          have B5 : Hid (Bd w1 n w5 rv L) := HB.out.on BL5.out
          obtain ⟨a5, c5, hu5⟩ := own_form own5
          subst hu5
          have d0 := B5.out.box.c0
          have d1 := B5.out.box.c1
          have s5 := bel5.size
          clear own5 bel5
          go_wp2_with (at_builtin; refine wpList_append_own _ rfl _ _ 22 rfl w1.heap.size 41 il (.slice none 0 0) 1 24 Tryd.underlying22 hil hzl0 hzl1 hzl2 rfl (by decide) _ L.length (L.map Prod.fst) rfl (B5.out.row_alloc _) _ 1 1 [.slice a5 (tid z).length c5] rfl rfl (cell_one_new _ _ _) (by simp [Value.oneCell']) (by unfold maxLen; omega) (by omega) (by simp; omega) ?_; intro v6 w6 own6 gr6 hn6; refine Hid.out ?_)
          refine Lib.hid ?_
          obtain ⟨a6, c6, hv6⟩ := row_form own6
          subst hv6
          have A6 : Hid (Bx2 w6 w1.heap.size 24 (.int .i64 n) rv ∧ Bd w1 n (w6.setCell ⟨w1.heap.size, 1, none⟩ (.slice a6 (L.length + 1) c6)) (.slice a6 (L.length + 1) c6) (L ++ [(.slice a5 (tid z).length c5, tid z)])) := HB.out.app BL5.out O5.out own6 gr6
          have g0 := A6.out.1.c0
          have g1 := A6.out.1.c1
          have g2 := A6.out.1.f1
          clear own6 gr6 hn6
          go_wp2
          go_roundg (gg - 1)
          case measure => have := HKg.out; omega
          case rel => exact ⟨m + 1, L ++ [(Value.slice a5 (tid z).length c5, tid z)], Value.slice a6 (L.length + 1) c6, by have := HKg.out; omega, by go_num, by simp; omega, by rw [HS2.out, List.map_append, HL.out]; rfl, A6.out.2⟩
    · obtain rfl : k = css.length := by omega
      have p0 := HXq.out.ans.c0
      have p1 := HXq.out.ans.c1
      have p2 := HXq.out.ans.f0
      have p3 := HXq.out.ans.f1
      have d0 := HB.out.box.c0
      have d1 := HB.out.box.c1
      have HWz : Hid (w.heap.size ≤ w1.heap.size) := HX1.out.bx.bel.size
      obtain ⟨ar, cr, hrv⟩ := row_form HB.out.own.row
      subst hrv
      clear hk
      go_wp2
      try simp only [Exit.inBlock, Exit.then]
      refine bodyPost_ret (ret_form rfl rfl ((HXq.out.ans.set0 _).set1 _)) rfl ?_
      refine ⟨.slice ar L.length cr, by rw [HU.out]; rfl, ?_, below_set (below_set HXq.out.bx.bel (by omega) _ _) (by omega) _ _⟩
      rw [HU.out]
      have F0 : OwnF w.heap.size wr (.slice ar L.length cr) (tdK css css.length) := ⟨L, HB.out.own.mono HWz.out, HL.out⟩
      exact (F0.set HXq.out.ans (by decide) (by decide) _ _).set (HXq.out.ans.set0 _) (by decide) (by decide) _ _

end Go.Proofs.YtbnnoajpmmbpbaaDoor
