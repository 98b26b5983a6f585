/-
  RelationThere (walks/genthere22.py writes it).
  KEEP: walk lisF LsAns OwnR OwnRs off c0 c1 c2 c3 c4 s0 s1 s2 s3 s4 newS rds lt f t q x len below nil form rd mono on app start at new trans refl kept own row out grown rdz set one more size cell some none letL tail next step go add put del get look no yes e c b k n m box rd22 at22 below22 RdR RdRs
-/
import Derived.Test.YtmfcaoacklbkoaaDoorJRlO
import Derived.Test.YtmfcaoacklbkoaaDoorKRmF
import Derived.Test.YtmfcaoacklbkoaaDoorKRnR
set_option linter.unusedSimpArgs false
set_option linter.unusedVariables false
namespace Go.Proofs.YtmfcaoacklbkoaaDoor
open Go Go.RowKit
namespace relationThere

set_option maxHeartbeats 6400000 in
set_option maxRecDepth 100000 in
theorem walk (v : Value) (l : List (List Rl)) (W : World) (hr : RdRs W v l) (hz : szL l ≤ 1099511627776) (hf : l.flatten.length * 40 ≤ 140737488355328) (hzf : szL (l.flatten.map fun r => [r]) ≤ 1099511627776) (hT : OpT W) :
    Calls Tryd.prog 4 #[v] W fun e W' => e = .returned (.bool true) ∧ Below W.heap.size W W' := by
  have hlen := hr.1
  have HR : Hid (∀ V, Below W.heap.size W V → RdRs V v l) := fun V h => hr.below22 h
  have HT : Hid (∀ V, Below W.heap.size W V → OpT V) := fun V h => hT.blw h
  have HCp : Hid (∀ V, RdRs V v l → Calls Tryd.prog 12 #[v] V fun e w' => ∃ v' L, e = .returned v' ∧ OwnRs V.heap.size w' v' L ∧ rgS L = l ∧ Below V.heap.size V w') := fun V h => copies22 v l V h
  have HFl : Hid (∀ V, RdRs V v l → Calls Tryd.prog 14 #[v] V fun e w' => ∃ a c, e = .returned (.slice a l.flatten.length c) ∧ OwnR V.heap.size w' (.slice a l.flatten.length c) l.flatten ∧ Below V.heap.size V w') := fun V h => flat22 v l V h hf
  have HPw : Hid (∀ V u, OpT V → RdRs V u l → Calls Tryd.prog 10 #[u] V fun e w' => e = .returned (wrA22 (lisT 0 ⟨#[]⟩ l)) ∧ Below V.heap.size V w') := fun V u ht h => pWrite22 u l V h ht hz
  have hszf : szR l.flatten ≤ 1099511627776 := by
    have : ∀ rs : List Rl, szR rs ≤ szL (rs.map fun r => [r]) := fun rs => by
      induction rs with
      | nil => exact Nat.le_refl _
      | cons x q ih => simp only [szR, List.map_cons, szL]; omega
    exact Nat.le_trans (this _) hzf
  have HPl : Hid (∀ V u, OpT V → RdR V u l.flatten → Calls Tryd.prog 13 #[u] V fun e w' => e = .returned (wrA22 (lisT 0 ⟨#[]⟩ (l.flatten.map fun r => [r]))) ∧ Below V.heap.size V w') := fun V u ht h => pWriteList22 u _ V h ht hszf
  have hfl9 : l.flatten.length ≤ szR l.flatten := by
    generalize l.flatten = q
    induction q with
    | nil => exact Nat.le_refl _
    | cons x r ih => simp only [szR, List.length_cons]; omega
  have HRd : Hid (∀ B V u L, OwnRs B V u L → rgS L = l → RdRs V u l) := fun B V u L h e => by
    have h1 := h.len22 e
    rw [← e]
    refine h.rd22 (by omega) (fun x hx => ?_)
    have hx2 : x.2 ∈ l := by rw [← e]; exact List.mem_map.2 ⟨x, hx, rfl⟩
    have h2 : x.2.length ≤ l.flatten.length := (List.sublist_flatten_of_mem hx2).length_le
    omega
  have HRf : Hid (∀ B V u, OwnR B V u l.flatten → RdR V u l.flatten) := fun B V u h => h.rd22 (by omega)
  have HFo : Hid (∀ V k q, k < l.length → q < (l.getD k []).length → OpT V → Calls Tryd.prog 11 #[.agg #[.string ((l.getD k []).getD q noRl).1, .int .i64 ((l.getD k []).getD q noRl).2.1, .string ((l.getD k []).getD q noRl).2.2]] V fun e w' => e = .returned (.bool (relB ((l.getD k []).getD q noRl).1 ((l.getD k []).getD q noRl).2.1 ((l.getD k []).getD q noRl).2.2)) ∧ Below V.heap.size V w') := fun V k q hk hq h => by
    have h1 := szR_at (l.getD k []) q hq
    have h2 := szL_at l k hk
    exact pFormed22 _ _ _ V (by omega) (by omega) h
  have HAa : Hid (∀ V, OpT V → Calls Tryd.prog 11 #[.agg #[.string ⟨#[97, 97]⟩, .int .i64 0, .string ⟨#[]⟩]] V fun e w' => e = .returned (.bool true) ∧ Below V.heap.size V w') := fun V h => by
    have := pFormed22 ⟨#[97, 97]⟩ 0 ⟨#[]⟩ V (by decide) (by decide) h
    rw [aa_formed] at this
    exact this
  -- what comes of it
  have HNo : Hid ((nemB l && allB l) = false → lisT 0 ⟨#[]⟩ l = none) := lis_none l 0 _
  have HYes : Hid (nemB l = true → allB l = true → ∃ T, lisT 0 ⟨#[]⟩ l = some T ∧ T.size ≤ 1099511627776 ∧ lstF T true = .ok l) := fun h1 h2 => by
    obtain ⟨T, e1, e2⟩ := lis_some l 0 ⟨#[]⟩ h1 h2
    have e0 : (⟨#[]⟩ : ByteArray).size = 0 := rfl
    exact ⟨T, e1, by omega, lst_back e1⟩
  have HPNo : Hid (allB l = false → lisT 0 ⟨#[]⟩ (l.flatten.map fun r => [r]) = none) := fun h => by rw [lisT_pl, frm_flat, h]; rfl
  have HPYes : Hid (allB l = true → ∃ T, lisT 0 ⟨#[]⟩ (l.flatten.map fun r => [r]) = some T ∧ T.size ≤ 1099511627776 ∧ lisF (lstF T false) = (l.flatten, 0, 0)) := fun h => by
    have hfr : frmB l.flatten = true := by rw [frm_flat]; exact h
    have e2 := (wrT_size ⟨#[44, 32]⟩ (by decide) l.flatten 0 ⟨#[]⟩).2
    have e0 : (⟨#[]⟩ : ByteArray).size = 0 := rfl
    exact ⟨_, by rw [lisT_pl, hfr, if_pos rfl], by omega, lis_back hfr rfl⟩
  have HNt : Hid (∀ k, k < l.length → nemB (l.take (k + 1)) = (nemB (l.take k) && decide (0 < (l.getD k []).length))) := fun k h => nem_take h
  have HAt : Hid (∀ k, k < l.length → allB (l.take (k + 1)) = (allB (l.take k) && frmB (l.getD k []))) := fun k h => all_take h
  have HNe : Hid (nemB (l.take l.length) = nemB l ∧ allB (l.take l.length) = allB l) := by rw [List.take_length]; exact ⟨rfl, rfl⟩
  obtain ⟨va, vc, hv, hc, hm, -⟩ := hr.at22
  subst hv
  have HRc : Hid (∀ V, Below W.heap.size W V → ∀ k, k < l.length → ∃ b off u, va = some ⟨b, off, none⟩ ∧ V.cell? ⟨b, off + k, none⟩ = some u ∧ RdR V u (l.getD k [])) := fun V hb k hk => by
    obtain ⟨a', c', e', -, -, hcl⟩ := (HR.out V hb).at22
    have e3 : a' = va := by injection e' with q1 q2 q3; exact q1.symm
    subst e3
    exact hcl k hk
  obtain ⟨ln, hln⟩ : ∃ ln, ln = l.length := ⟨_, rfl⟩
  rw [← hln] at hlen hc HFo HNt HAt HNe HRc HR HCp HFl ⊢
  clear hr hz hf hzf hT hszf hfl9 hln
  go_enter Tryd.func4, Tryd.ntmps4
  go_wp2
  go_loopg [3, 4, 5] ln (fun g x3 x4 i wr => ∃ (k : Nat) (R P : Bool), k + g = ln ∧ i = .int .i64 k ∧ x3 = .bool R ∧ x4 = .bool P ∧ Hid (R = nemB (l.take k)) ∧ Hid (P = allB (l.take k)) ∧ Hid (Below W.heap.size W wr))
  case atStart => exact ⟨0, true, true, by omega, rfl, rfl, rfl, rfl, rfl, Below.refl _ _⟩
  case round =>
    obtain ⟨k, R, P, hk, rfl, rfl, rfl, HRk, HPk, HB⟩ := hrel
    have HG : Hid (k + gk = ln) := hk
    by_cases hlt : k < ln
    · obtain ⟨b, off, u, rfl, hcu, hru⟩ := HRc.out wr HB.out k hlt
      have HRn : Hid (nemB (l.take (k + 1)) = (R && decide (0 < (l.getD k []).length))) := by show _ = _; rw [HNt.out k hlt, HRk.out]
      have HPn : Hid (allB (l.take (k + 1)) = (P && frmB (l.getD k []))) := by show _ = _; rw [HAt.out k hlt, HPk.out]
      have HFk : Hid (∀ V q, q < (l.getD k []).length → OpT V → Calls Tryd.prog 11 #[.agg #[.string ((l.getD k []).getD q noRl).1, .int .i64 ((l.getD k []).getD q noRl).2.1, .string ((l.getD k []).getD q noRl).2.2]] V fun e w' => e = .returned (.bool (relB ((l.getD k []).getD q noRl).1 ((l.getD k []).getD q noRl).2.1 ((l.getD k []).getD q noRl).2.2)) ∧ Below V.heap.size V w') := fun V q hq h => HFo.out V k q hlt hq h
      clear HRk HPk hk
      generalize l.getD k [] = rs at *
      have HRu : Hid (∀ V, Below wr.heap.size wr V → RdR V u rs) := fun V h => hru.below22 h
      have hcuW : ∀ V, Below wr.heap.size wr V → V.cell? ⟨b, off + k, none⟩ = some u := fun V h => (h.cell (p := ⟨b, off + k, none⟩) (World.block_lt_of_cell? wr _ hcu)).trans hcu
      have HCu : Hid (∀ V, Below wr.heap.size wr V → V.cell? ⟨b, off + k, none⟩ = some u) := hcuW
      obtain ⟨ua, uc, rfl, hul, hum, -⟩ := hru.at22
      have hu40 := hru.1
      have HFt : Hid (∀ q, q < rs.length → frmB (rs.take (q + 1)) = (frmB (rs.take q) && relB (rs.getD q noRl).1 (rs.getD q noRl).2.1 (rs.getD q noRl).2.2)) := fun q h => frm_take h
      have HFe : Hid (frmB (rs.take rs.length) = frmB rs) := by show _ = _; rw [List.take_length]
      have HUc : Hid (∀ V, Below wr.heap.size wr V → ∀ q, q < rs.length → ∃ b off, ua = some ⟨b, off, none⟩ ∧ V.cell? ⟨b, off + q * 3, none⟩ = some (.string (rs.getD q noRl).1) ∧ V.cell? ⟨b, off + q * 3 + 1, none⟩ = some (.int .i64 (rs.getD q noRl).2.1) ∧ V.cell? ⟨b, off + q * 3 + 2, none⟩ = some (.string (rs.getD q noRl).2.2)) := fun V hb q hq => by
        obtain ⟨a', c', e', -, -, hcl⟩ := (HRu.out V hb).at22
        have e3 : a' = ua := by injection e' with q1 q2 q3; exact q1.symm
        subst e3
        exact hcl q hq
      obtain ⟨nr, hnr⟩ : ∃ nr, nr = rs.length := ⟨_, rfl⟩
      rw [← hnr] at HRn HFk hul hu40 HFt HFe HUc hcu HCu
      clear hru HRu hcuW hnr
      go_upto_region 6 with fail
      go_cut [3] from 23 to 31 (fun p wx => p = .bool (R && decide (0 < nr)) ∧ wx = wr)
      case first =>
        cases R
        all_goals
          go_wp2
          go_meet
          exact ⟨by simp, rfl⟩
      case rest =>
        obtain ⟨rfl, rfl⟩ := hcut
        obtain ⟨R2, hR2⟩ : ∃ R2, R2 = (R && decide (0 < nr)) := ⟨_, rfl⟩
        rw [← hR2] at HRn ⊢
        clear hR2
        go_wp2_with fail
        go_loopg [4, 6] nr (fun g x4 j wy => ∃ (q : Nat) (P2 : Bool), q + g = nr ∧ j = .int .i64 q ∧ x4 = .bool P2 ∧ Hid (P2 = (P && frmB (rs.take q))) ∧ Hid (Below wc.heap.size wc wy))
        case atStart => exact ⟨0, P, by omega, rfl, rfl, (show P = (P && frmB (rs.take 0)) by simp [frmB]), Below.refl _ _⟩
        case round =>
          obtain ⟨q, P2, hq, rfl, rfl, HP2, HBz⟩ := hrel
          have HGq : Hid (q + gk = nr) := hq
          have cU := HCu.out wr HBz.out
          have HBw : Hid (Below W.heap.size W wr) := HB.out.trans (HBz.out.mono HB.out.size)
          by_cases hlq : q < nr
          · obtain ⟨ub, uo, rfl, z0, z1, z2⟩ := HUc.out wr HBz.out q hlq
            have HFc : Hid (∀ V, OpT V → Calls Tryd.prog 11 #[.agg #[.string (rs.getD q noRl).1, .int .i64 (rs.getD q noRl).2.1, .string (rs.getD q noRl).2.2]] V fun e w' => e = .returned (.bool (relB (rs.getD q noRl).1 (rs.getD q noRl).2.1 (rs.getD q noRl).2.2)) ∧ Below V.heap.size V w') := fun V h => HFk.out V q hlq h
            have HPq : Hid (frmB (rs.take (q + 1)) = (frmB (rs.take q) && relB (rs.getD q noRl).1 (rs.getD q noRl).2.1 (rs.getD q noRl).2.2)) := HFt.out q hlq
            clear hq
            generalize rs.getD q noRl = r at *
            obtain ⟨n, o, vv⟩ := r
            simp only at HFc HPq z0 z1 z2
            generalize relB n o vv = B at *
            cases P2
            · have HE : Hid (false = (P && frmB (rs.take (q + 1)))) := by
                show _ = _
                rw [HPq.out, ← Bool.and_assoc, ← HP2.out]; rfl
              clear HPq HP2
              go_wp2
              go_roundg (gk - 1)
              case measure => have := HGq.out; omega
              case rel => exact ⟨q + 1, false, by have := HGq.out; omega, by first | rfl | go_num, rfl, HE.out, HBz.out⟩
            · have HE : Hid (B = (P && frmB (rs.take (q + 1)))) := by
                show _ = _
                rw [HPq.out, ← Bool.and_assoc, ← HP2.out, Bool.true_and]
              clear HPq HP2
              go_wp2_with (go_at_call 11; refine (HFc.out _ (HT.out _ HBw.out)).mono ?_; rintro e w9 ⟨rfl, b9⟩; have HB9 : Hid (Below wc.heap.size wc w9) := HBz.out.trans (b9.mono HBz.out.size); clear b9)
              go_roundg (gk - 1)
              case measure => have := HGq.out; omega
              case rel => exact ⟨q + 1, B, by have := HGq.out; omega, by first | rfl | go_num, rfl, HE.out, HB9.out⟩
          · have HE : Hid (P2 = allB (l.take (k + 1))) := by
              show _ = _
              have e : q = nr := by omega
              rw [HP2.out, HPn.out, e, HFe.out]
            clear hq HP2
            go_wp2
            go_roundg (ln - (k + 1))
            case measure => have := HG.out; omega
            case rel => exact ⟨k + 1, R2, P2, by have := HG.out; omega, by first | rfl | go_num, rfl, rfl, HRn.out.symm, HE.out, HBw.out⟩
    · skip
      have hR2 : R = nemB l := by
        have e : k = ln := by omega
        rw [HRk.out, e, HNe.out.1]
      have hP2 : P = allB l := by
        have e : k = ln := by omega
        rw [HPk.out, e, HNe.out.2]
      clear HRk HPk HNe HNt HAt HFo HRc
      cases P
      case false =>
        have hl1 : lisT 0 ⟨#[]⟩ l = none := HNo.out (by rw [← hP2, Bool.and_false])
        have hl2 := HPNo.out hP2.symm
        have HPw2 : Hid (∀ V u, OpT V → RdRs V u l → Calls Tryd.prog 10 #[u] V fun e w' => e = .returned (.tuple #[.string ⟨#[]⟩, .int .i64 1]) ∧ Below V.heap.size V w') := fun V u h1 h2 => by
          have := HPw.out V u h1 h2
          rw [hl1] at this
          exact this
        have HPl2 : Hid (∀ V u, OpT V → RdR V u l.flatten → Calls Tryd.prog 13 #[u] V fun e w' => e = .returned (.tuple #[.string ⟨#[]⟩, .int .i64 1]) ∧ Below V.heap.size V w') := fun V u h1 h2 => by
          have := HPl.out V u h1 h2
          rw [hl2] at this
          exact this
        clear HPw HPl hl1 hl2
        generalize hfl : l.flatten = FL at *
        clear hfl

        clear HNo HYes HPNo HPYes hR2 hP2 hk
        cases R
        all_goals
          go_wp2_with fail
          refine (HCp.out _ (HR.out _ HB.out)).mono ?_
          rintro e w1 ⟨v1, L1, rfl, o1, l1, b1⟩
          have HB1 : Hid (Below W.heap.size W w1) := HB.out.trans (b1.mono HB.out.size)
          have HR1 : Hid (RdRs w1 v1 l) := HRd.out _ _ _ _ o1 l1
          obtain ⟨a1, c1, rfl, -, -, -⟩ := HR1.out.at22
          clear o1 l1 b1 HCp HB
          generalize l.length = n1 at *
          go_wp2_with fail
          refine (HPw2.out _ _ (HT.out _ HB1.out) HR1.out).mono ?_
          rintro e w2 ⟨rfl, b2⟩
          have HB2 : Hid (Below W.heap.size W w2) := HB1.out.trans (b2.mono HB1.out.size)
          clear b2 HB1 HR1 HPw2
          go_wp2_with fail
          refine (HFl.out _ (HR.out _ HB2.out)).mono ?_
          rintro e w4 ⟨a4, c4, rfl, o4, b4⟩
          have HB4 : Hid (Below W.heap.size W w4) := HB2.out.trans (b4.mono HB2.out.size)
          have HR4 : Hid (RdR w4 (.slice a4 FL.length c4) FL) := HRf.out _ _ _ o4
          clear o4 b4 HB2
          go_wp2_with fail
          refine (HPl2.out _ _ (HT.out _ HB4.out) HR4.out).mono ?_
          rintro e w5 ⟨rfl, b5⟩
          have HB5 : Hid (Below W.heap.size W w5) := HB4.out.trans (b5.mono HB4.out.size)
          clear b5 HB4 HR4 HPl2
          go_wp2_with (go_at_call 11; refine (HAa.out _ (HT.out _ HB5.out)).mono ?_; rintro e w9 ⟨rfl, b9⟩; have HB9 : Hid (Below W.heap.size W w9) := HB5.out.trans (b9.mono HB5.out.size); clear b9)
          go_ret
          exact ⟨rfl, HB9.out⟩

      case true =>
        obtain ⟨T2, hl2, hT2⟩ := HPYes.out hP2.symm
        have HT2 : Hid (T2.size ≤ 1099511627776 ∧ lisF (lstF T2 false) = (l.flatten, 0, 0)) := hT2
        clear hT2
        cases R
        case false =>
          have hl1 : lisT 0 ⟨#[]⟩ l = none := HNo.out (by rw [← hR2, Bool.false_and])
          have HPw2 : Hid (∀ V u, OpT V → RdRs V u l → Calls Tryd.prog 10 #[u] V fun e w' => e = .returned (.tuple #[.string ⟨#[]⟩, .int .i64 1]) ∧ Below V.heap.size V w') := fun V u h1 h2 => by
            have := HPw.out V u h1 h2
            rw [hl1] at this
            exact this
          have HPl2 : Hid (∀ V u, OpT V → RdR V u l.flatten → Calls Tryd.prog 13 #[u] V fun e w' => e = .returned (.tuple #[.string T2, .int .i64 0]) ∧ Below V.heap.size V w') := fun V u h1 h2 => by
            have := HPl.out V u h1 h2
            rw [hl2] at this
            exact this
          clear HPw HPl hl1 hl2
          generalize hfl : l.flatten = FL at *
          clear hfl

          clear HNo HYes HPNo HPYes hR2 hP2 hk
          go_wp2_with fail
          refine (HCp.out _ (HR.out _ HB.out)).mono ?_
          rintro e w1 ⟨v1, L1, rfl, o1, l1, b1⟩
          have HB1 : Hid (Below W.heap.size W w1) := HB.out.trans (b1.mono HB.out.size)
          have HR1 : Hid (RdRs w1 v1 l) := HRd.out _ _ _ _ o1 l1
          obtain ⟨a1, c1, rfl, -, -, -⟩ := HR1.out.at22
          clear o1 l1 b1 HCp HB
          generalize l.length = n1 at *
          go_wp2_with fail
          refine (HPw2.out _ _ (HT.out _ HB1.out) HR1.out).mono ?_
          rintro e w2 ⟨rfl, b2⟩
          have HB2 : Hid (Below W.heap.size W w2) := HB1.out.trans (b2.mono HB1.out.size)
          clear b2 HB1 HR1 HPw2
          go_wp2_with fail
          refine (HFl.out _ (HR.out _ HB2.out)).mono ?_
          rintro e w4 ⟨a4, c4, rfl, o4, b4⟩
          have HB4 : Hid (Below W.heap.size W w4) := HB2.out.trans (b4.mono HB2.out.size)
          have HR4 : Hid (RdR w4 (.slice a4 FL.length c4) FL) := HRf.out _ _ _ o4
          clear o4 b4 HB2
          go_wp2_with fail
          refine (HPl2.out _ _ (HT.out _ HB4.out) HR4.out).mono ?_
          rintro e w5 ⟨rfl, b5⟩
          have HB5 : Hid (Below W.heap.size W w5) := HB4.out.trans (b5.mono HB4.out.size)
          clear b5 HB4 HR4 HPl2

          have HRl : Hid (Calls Tryd.prog 9 #[.string T2] w5 fun e w' => ∃ v, e = .returned (.tuple #[v, .int .i64 0, .int .i64 0]) ∧ OwnR w5.heap.size w' v FL ∧ Below w5.heap.size w5 w') := by
            have := pReadList22 T2 w5 (HT.out _ HB5.out) HT2.out.1
            rw [HT2.out.2] at this
            exact this
          go_wp2_with fail
          refine HRl.out.mono ?_
          rintro e w6 ⟨v6, rfl, o6, b6⟩
          have HB6 : Hid (Below W.heap.size W w6) := HB5.out.trans (b6.mono HB5.out.size)
          have HR6 : Hid (RdR w6 v6 FL) := HRf.out _ _ _ o6
          obtain ⟨a6, c6, rfl, -, -, -⟩ := HR6.out.at22
          clear o6 b6 HB5 HRl HT2
          obtain ⟨m6, hm6⟩ : ∃ m6, m6 = FL.length := ⟨_, rfl⟩
          rw [← hm6] at HR6 ⊢
          clear hm6
          go_wp2_with fail
          refine (HFl.out _ (HR.out _ HB6.out)).mono ?_
          rintro e w7 ⟨a7, c7, rfl, o7, b7⟩
          have HB7 : Hid (Below W.heap.size W w7) := HB6.out.trans (b7.mono HB6.out.size)
          have HR7 : Hid (RdR w7 (.slice a7 FL.length c7) FL) := HRf.out _ _ _ o7
          have HR67 : Hid (RdR w7 (.slice a6 m6 c6) FL) := HR6.out.below22 b7
          clear o7 b7 HB6 HR6 HFl
          have HSm : Hid (Calls Tryd.prog 15 #[.slice a6 m6 c6, .slice a7 FL.length c7] w7 fun e w' => e = .returned (.bool true) ∧ ∃ m, w' = w7.drewN m) := same22 _ _ FL w7 HR67.out HR7.out
          clear HR7 HR67
          generalize FL.length = m7 at *
          go_wp2_with fail
          refine HSm.out.mono ?_
          rintro e w8 ⟨rfl, m, hw8⟩
          have HB8 : Hid (Below W.heap.size W w8) := by
            show Below _ _ _
            rw [hw8]
            exact HB7.out.trans ((blw_dn22 w7 m).mono HB7.out.size)
          clear HSm HB7 hw8
          go_wp2_with (go_at_call 11; refine (HAa.out _ (HT.out _ HB8.out)).mono ?_; rintro e w9 ⟨rfl, b9⟩; have HB9 : Hid (Below W.heap.size W w9) := HB8.out.trans (b9.mono HB8.out.size); clear b9)
          go_ret
          exact ⟨rfl, HB9.out⟩

        case true =>
          obtain ⟨T1, hl1, hT1⟩ := HYes.out hR2.symm hP2.symm
          have HT1 : Hid (T1.size ≤ 1099511627776 ∧ lstF T1 true = .ok l) := hT1
          clear hT1
          have HPw2 : Hid (∀ V u, OpT V → RdRs V u l → Calls Tryd.prog 10 #[u] V fun e w' => e = .returned (.tuple #[.string T1, .int .i64 0]) ∧ Below V.heap.size V w') := fun V u h1 h2 => by
            have := HPw.out V u h1 h2
            rw [hl1] at this
            exact this
          have HPl2 : Hid (∀ V u, OpT V → RdR V u l.flatten → Calls Tryd.prog 13 #[u] V fun e w' => e = .returned (.tuple #[.string T2, .int .i64 0]) ∧ Below V.heap.size V w') := fun V u h1 h2 => by
            have := HPl.out V u h1 h2
            rw [hl2] at this
            exact this
          clear HPw HPl hl1 hl2
          generalize hfl : l.flatten = FL at *
          clear hfl

          clear HNo HYes HPNo HPYes hR2 hP2 hk
          go_wp2_with fail
          refine (HCp.out _ (HR.out _ HB.out)).mono ?_
          rintro e w1 ⟨v1, L1, rfl, o1, l1, b1⟩
          have HB1 : Hid (Below W.heap.size W w1) := HB.out.trans (b1.mono HB.out.size)
          have HR1 : Hid (RdRs w1 v1 l) := HRd.out _ _ _ _ o1 l1
          obtain ⟨a1, c1, rfl, -, -, -⟩ := HR1.out.at22
          clear o1 l1 b1 HCp HB
          generalize l.length = n1 at *
          go_wp2_with fail
          refine (HPw2.out _ _ (HT.out _ HB1.out) HR1.out).mono ?_
          rintro e w2 ⟨rfl, b2⟩
          have HB2 : Hid (Below W.heap.size W w2) := HB1.out.trans (b2.mono HB1.out.size)
          clear b2 HB1 HR1 HPw2
          go_wp2_with fail
          refine (HFl.out _ (HR.out _ HB2.out)).mono ?_
          rintro e w4 ⟨a4, c4, rfl, o4, b4⟩
          have HB4 : Hid (Below W.heap.size W w4) := HB2.out.trans (b4.mono HB2.out.size)
          have HR4 : Hid (RdR w4 (.slice a4 FL.length c4) FL) := HRf.out _ _ _ o4
          clear o4 b4 HB2
          go_wp2_with fail
          refine (HPl2.out _ _ (HT.out _ HB4.out) HR4.out).mono ?_
          rintro e w5 ⟨rfl, b5⟩
          have HB5 : Hid (Below W.heap.size W w5) := HB4.out.trans (b5.mono HB4.out.size)
          clear b5 HB4 HR4 HPl2

          have HRl : Hid (Calls Tryd.prog 9 #[.string T2] w5 fun e w' => ∃ v, e = .returned (.tuple #[v, .int .i64 0, .int .i64 0]) ∧ OwnR w5.heap.size w' v FL ∧ Below w5.heap.size w5 w') := by
            have := pReadList22 T2 w5 (HT.out _ HB5.out) HT2.out.1
            rw [HT2.out.2] at this
            exact this
          go_wp2_with fail
          refine HRl.out.mono ?_
          rintro e w6 ⟨v6, rfl, o6, b6⟩
          have HB6 : Hid (Below W.heap.size W w6) := HB5.out.trans (b6.mono HB5.out.size)
          have HR6 : Hid (RdR w6 v6 FL) := HRf.out _ _ _ o6
          obtain ⟨a6, c6, rfl, -, -, -⟩ := HR6.out.at22
          clear o6 b6 HB5 HRl HT2
          obtain ⟨m6, hm6⟩ : ∃ m6, m6 = FL.length := ⟨_, rfl⟩
          rw [← hm6] at HR6 ⊢
          clear hm6
          go_wp2_with fail
          refine (HFl.out _ (HR.out _ HB6.out)).mono ?_
          rintro e w7 ⟨a7, c7, rfl, o7, b7⟩
          have HB7 : Hid (Below W.heap.size W w7) := HB6.out.trans (b7.mono HB6.out.size)
          have HR7 : Hid (RdR w7 (.slice a7 FL.length c7) FL) := HRf.out _ _ _ o7
          have HR67 : Hid (RdR w7 (.slice a6 m6 c6) FL) := HR6.out.below22 b7
          clear o7 b7 HB6 HR6 HFl
          have HSm : Hid (Calls Tryd.prog 15 #[.slice a6 m6 c6, .slice a7 FL.length c7] w7 fun e w' => e = .returned (.bool true) ∧ ∃ m, w' = w7.drewN m) := same22 _ _ FL w7 HR67.out HR7.out
          clear HR7 HR67
          generalize FL.length = m7 at *
          go_wp2_with fail
          refine HSm.out.mono ?_
          rintro e w8 ⟨rfl, m, hw8⟩
          have HB8 : Hid (Below W.heap.size W w8) := by
            show Below _ _ _
            rw [hw8]
            exact HB7.out.trans ((blw_dn22 w7 m).mono HB7.out.size)
          clear HSm HB7 hw8

          have HRe : Hid (Calls Tryd.prog 8 #[.string T1] w8 fun e w' => ∃ v L, e = .returned (.tuple #[v, .int .i64 0, .int .i64 0]) ∧ OwnRs w8.heap.size w' v L ∧ rgS L = l ∧ RdRs w' v l ∧ Below w8.heap.size w8 w') := by
            have := (pRead22 T1 w8 (HT.out _ HB8.out) HT1.out.1).mono fun e w' q => ls_rd22 q HT1.out.1
            rw [HT1.out.2] at this
            exact this
          go_wp2_with fail
          refine HRe.out.mono ?_
          rintro e w10 ⟨v10, L10, rfl, o10, l10, r10, b10⟩
          have HB10 : Hid (Below W.heap.size W w10) := HB8.out.trans (b10.mono HB8.out.size)
          have HR10 : Hid (RdRs w10 v10 l) := r10
          obtain ⟨a10, c10, rfl, -, -, -⟩ := r10.at22
          have HAl : Hid (Calls Tryd.prog 16 #[.slice a10 l.length c10, .slice va ln vc] w10 fun e w' => e = .returned (.bool true) ∧ ∃ m, w' = w10.drewN m) := alike22 _ _ l w10 HR10.out (HR.out _ HB10.out)
          clear o10 l10 r10 b10 HB8 HRe HT1 HR10
          generalize l.length = m10 at *
          go_wp2_with fail
          refine HAl.out.mono ?_
          rintro e w11 ⟨rfl, m, hw11⟩
          have HB11 : Hid (Below W.heap.size W w11) := by
            show Below _ _ _
            rw [hw11]
            exact HB10.out.trans ((blw_dn22 w10 m).mono HB10.out.size)
          clear HAl HB10 hw11
          go_wp2_with (go_at_call 11; refine (HAa.out _ (HT.out _ HB11.out)).mono ?_; rintro e w9 ⟨rfl, b9⟩; have HB9 : Hid (Below W.heap.size W w9) := HB11.out.trans (b9.mono HB11.out.size); clear b9)
          go_ret
          exact ⟨rfl, HB9.out⟩

end relationThere
end Go.Proofs.YtmfcaoacklbkoaaDoor
