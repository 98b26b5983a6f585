/-
  learn, the document's side: Learn.
  KEEP: len below nil form rd mono one more grown lt size cell some none of ofNat add out step row get at mk new made look put del kept drew alloc has same other map rde take lit lev lstB pre ws cells bnd on start app set box bel rz tidy ms reason c f max lv
-/
import Derived.Test.YtkchabdlpeifjaaLnY
import Derived.Test.YtkchabdlpeifjaaLnW
set_option linter.unusedSimpArgs false
set_option linter.unusedVariables false
namespace Go.Proofs.Ytkchabdlpeifjaa
open Go Go.RowKit
theorem isF_tid {t : List Ent} (h : Ws t) {T : Int → Bool} : ∀ x ∈ tid (ltS t T), isF t x = true := fun x hx => by
  obtain ⟨p, h1, _, rfl⟩ := h.tid_ltS.1 hx
  exact (h.opP_at h1).2.1
/-- the state of the resolving loop -/
structure RfL (t : List Ent) (L : Int) (zs : List Int) (k : Nat) (T : Int → Bool) (one : Int) : Prop where
  iv : Iv t L k T
  rs : rsv t L k T = RS t zs
  pos : 0 < cn t L T t.length
  la : LastP t L (tid (ltS t T)) one
theorem LaS.lastP {t : List Ent} (h : Ws t) {L : Int} {T : Int → Bool} {one : Int} (hl : LaS t L (tid (ltS t T)) one) (hc : 0 < cn t L T t.length) : LastP t L (tid (ltS t T)) one := by
  unfold LaS at hl
  rw [h.tid_cn] at hl
  rcases hl with q | q
  · omega
  · exact q.2
theorem tid_twice (zs : List Int) : tid (tid zs) = tid zs := tid_congr fun x hx => ⟨fun h => (mem_tid.1 h).1, fun h => mem_tid.2 ⟨h, hx⟩⟩
/-- one step of the document's loop -/
theorem RfL.step {t : List Ent} {L : Int} {zs : List Int} {k : Nat} {T : Int → Bool} {one : Int} (h : RfL t L zs k T one) (hw : Ws t) (hc : 1 < cn t L T t.length) : ∃ p : Nat, p < k ∧ p < t.length ∧ plI t one = (p : Int) ∧ -one = (t.getD p e0).1 ∧ isF t one = true ∧ tid (wout (tid (tid (ltS t T))) one ++ wout (tid (t.getD p e0).2.2) (-one)) = tid (ltS t (adS t (outS T (p : Int)) (rOth t p))) ∧
    (∀ one', LaS t L (tid (ltS t (adS t (outS T (p : Int)) (rOth t p)))) one' → RfL t L zs p (adS t (outS T (p : Int)) (rOth t p)) one') := by
  obtain ⟨p, h1, h2, h3, h4, h5, h6, h7⟩ := hw.last_at h.iv h.la
  have hF : isF t one = true := by rw [← h4]; exact (hw.opP_at h2).2.1
  have hneg : -one = (t.getD p e0).1 := by rw [← h4]; unfold opP; omega
  have hiv : Iv t L (p + 1) T := ⟨fun q hq => by
      have q1 := h.iv.bnd q hq
      refine ⟨q1.1, ?_⟩
      have hnot : ¬ (p : Int) < q := fun hlt => by
        have := h7 q.toNat (by omega) (by omega)
        rw [show ((q.toNat : Nat) : Int) = q by omega, hq] at this
        cases this
      omega, h.iv.lev, by omega⟩
  have hcp : 0 < cn t L (adS t (outS T (p : Int)) (rOth t p)) t.length := by
    have a1 := cn_out t L T p h3 h6 t.length h2
    have a2 := cn_adS t L (rOth t p) (outS T (p : Int)) (fun x hx => by have := (hw.rOth_at h2 hx).2; omega)
    omega
  refine ⟨p, h1, h2, by rw [plI_plN hw hF, h5], hneg, hF, ?_, fun one' hl => ⟨hiv.step hw hc h3, ?_, hcp, hl.lastP hw hcp⟩⟩
  · rw [tid_twice, hneg, ← h4]
    exact hw.step_tid h2 fun q hq => by have := h.iv.bnd q hq; have := h.iv.le; omega
  · rw [← h.rs]
    exact (rsv_skip hc h3 k h1 h7).symm
set_option maxRecDepth 100000 in
set_option maxHeartbeats 6400000 in
theorem rLearn_any (v vc : Value) (t : List Ent) (zs : List Int) (w : World) (hr : RdE w v t) (hz : Rd w vc zs) :
    Calls Try.prog 15 #[v, vc] w fun e w' => LnS w' w.heap.size t zs e ∧ Below w.heap.size w w' := by
  have hl := hz.len
  have hl2 := hr.len
  have HAs : Hid (Calls Try.prog 34 #[v, vc] w fun e w' => e = .returned (.int .i64 (askI t zs)) ∧ ∃ m, w' = w.drewN m) := rAsked_any v vc t zs w hr hz
  have HR : Hid (RdE w v t) := hr
  have HZ : Hid (Rd w vc zs) := hz
  unfold LnS
  clear hr hz
  by_cases h0 : askI t zs = 0
  case neg =>
    rw [if_neg h0, if_neg h0]
    have hb0 : (askI t zs == 0) = false := by simpa using h0
    generalize askI t zs = AI at *
    go_enter Try.func15, Try.ntmps15
    go_wp2_with (go_at_call 34; refine HAs.out.mono ?_; rintro e w1 ⟨rfl, m1, hw⟩; obtain rfl := hw)
    go_ret3
    exact ⟨⟨.slice none 0 0, rfl, World.ownsRow_nil _ _ _ _⟩, below_drewN _ _⟩
  have hk : frmE t = true ∧ zs.all fmd = true ∧ falB t zs = true := by
    unfold askI at h0
    cases e1 : frmE t <;> cases e2 : zs.all fmd <;> cases e3 : falB t zs <;> simp [e1, e2, e3] at h0 ⊢
  obtain ⟨hk1, hk2, hk3⟩ := hk
  have HWs : Hid (Ws t) := (frmE_iff t).1 hk1
  have HFa : Hid (falB t zs = true) := hk3
  rw [h0] at HAs ⊢
  rw [if_pos rfl, if_pos rfl]
  have HTi : Hid (∀ m, Calls Try.prog 35 #[vc] (w.drewN m) fun e w' => ∃ v', e = .returned v' ∧ Own w.heap.size w' v' (tid zs) ∧ Below w.heap.size w w') := fun m => (refTidy vc zs _ (HZ.out.below (below_drewN w m))).mono fun e w' ⟨v', h1, h2, h3⟩ => ⟨v', h1, h2, Below.step (below_drewN w m) h3⟩
  have htl := tid_len zs
  have HTt : Hid (tid zs = tid (ltS t (T0 t zs))) := T0_tid HWs.out hk3
  have HFt : Hid (∀ x ∈ tid zs, isF t x = true) := fun x hx => List.all_eq_true.1 hk3 x (mem_tid.1 hx).1
  have HTop : Hid (topI t (tid zs) = topI t zs) := topI_congr t fun x => ⟨fun h => (mem_tid.1 h).1, fun h => mem_tid.2 ⟨h, List.all_eq_true.1 hk2 x h⟩⟩
  obtain ⟨a, c, rfl, hc, hm, _⟩ := HR.out.form
  clear hk1 hk2 hk3 h0
  go_enter Try.func15, Try.ntmps15
  go_upto_region 5 with (first | (go_at_call 34; refine HAs.out.mono ?_; rintro e w1 ⟨rfl, m1, hw⟩; obtain rfl := hw) | (go_at_call 35; refine (HTi.out _).mono ?_; rintro e w2 ⟨v2, rfl, o2, b2⟩; have H2 : Hid (Own w.heap.size w2 v2 (tid zs) ∧ Below w.heap.size w w2) := ⟨o2, b2⟩; clear o2 b2))
  obtain ⟨ca, cc, hv2⟩ := own_form H2.out.1
  subst hv2
  have HRd2 : Hid (Rd w2 (.slice ca (tid zs).length cc) (tid zs)) := H2.out.1.rd (by omega)
  have HRe2 : Hid (RdE w2 (.slice a t.length c) t) := HR.out.below H2.out.2
  clear HAs HTi
  go_wp2_with fail
  go_loopg [9, 10] (tid zs).length (fun g m i wr => ∃ k : Nat, k + g = (tid zs).length ∧ m = .int .i64 (topI t ((tid zs).take k)) ∧ i = .int .i64 k ∧ wr = w2)
  case atStart => exact ⟨0, by omega, rfl, rfl, rfl⟩
  case round =>
    obtain ⟨k, hk, rfl, rfl, rfl⟩ := hrel
    have HK : Hid (k + gk = (tid zs).length) := hk
    by_cases hlt : k < (tid zs).length
    · obtain ⟨ua', uc', e', _, _, hcell⟩ := HRd2.out.form
      injection e' with q1 q2 q3
      subst q1 q3
      obtain ⟨b2, off2, rfl, hck⟩ := hcell k hlt
      have hmem := getD_mem' (l := tid zs) (k := k) (d := 0) hlt
      have HT : Hid (topI t ((tid zs).take (k + 1)) = max (topI t ((tid zs).take k)) (lvl t ((tid zs).getD k 0))) := by show _ = _; rw [take_succ_getD (tid zs) 0 k hlt, topI_snoc]
      have HLv : Hid (Calls Try.prog 36 #[.slice a t.length c, .int .i64 ((tid zs).getD k 0)] wr fun e w' => e = .returned (.int .i64 (lvl t ((tid zs).getD k 0))) ∧ w' = wr) := by
        rw [← HWs.out.lvR_lvl (HFt.out _ hmem)]; exact rLevel_any _ t _ wr HRe2.out (HWs.out.isF_at (HFt.out _ hmem)).1
      clear hk hcell hmem
      generalize (tid zs).getD k 0 = y at *
      generalize lvl t y = ly at *
      generalize topI t ((tid zs).take k) = m at *
      by_cases hgt : m < ly
      · have HT2 : Hid (topI t ((tid zs).take (k + 1)) = ly) := by show _ = _; rw [HT.out]; omega
        clear HT
        go_wp2_with (go_at_call 36; refine HLv.out.mono ?_; rintro e w' ⟨rfl, hw⟩; obtain rfl := hw.symm)
        go_roundg (gk - 1)
        case measure => have := HK.out; omega
        case rel => exact ⟨k + 1, by have := HK.out; omega, by rw [HT2.out], by go_num, rfl⟩
      · have HT2 : Hid (topI t ((tid zs).take (k + 1)) = m) := by show _ = _; rw [HT.out]; omega
        clear HT
        go_wp2_with (go_at_call 36; refine HLv.out.mono ?_; rintro e w' ⟨rfl, hw⟩; obtain rfl := hw.symm)
        go_roundg (gk - 1)
        case measure => have := HK.out; omega
        case rel => exact ⟨k + 1, by have := HK.out; omega, by rw [HT2.out], by go_num, rfl⟩
    · obtain rfl : k = (tid zs).length := by omega
      rw [List.take_length, HTop.out]
      clear hk
      by_cases hL : topI t zs = 0
      · have HE1 : Hid (lrnB t zs = -1) := by show _ = _; unfold lrnB; rw [if_pos hL]
        have HE2 : Hid (lrnC t zs = []) := by show _ = _; unfold lrnC; rw [if_pos hL]
        rw [hL]
        go_wp2_with fail
        go_ret3
        exact ⟨⟨.slice none 0 0, by rw [HE1.out]; rfl, by rw [HE2.out]; exact World.ownsRow_nil _ _ _ _⟩, H2.out.2⟩
      · have HE1 : Hid (lrnB t zs = topI t (othL t (topI t zs) (RS t zs))) := by show _ = _; unfold lrnB; rw [if_neg hL]
        have HE2 : Hid (lrnC t zs = oneL t (topI t zs) (RS t zs) :: tid (othL t (topI t zs) (RS t zs))) := by show _ = _; unfold lrnC; rw [if_neg hL]
        have HIv0 : Hid (Iv t (topI t zs) t.length (T0 t zs)) := T0_iv HWs.out HFa.out
        have HCn0 : Hid (0 < cn t (topI t zs) (T0 t zs) t.length) := T0_cn HWs.out HFa.out hL
        have HRSe : Hid (cn t (topI t zs) (RS t zs) t.length = 1 ∧ Iv t (topI t zs) t.length (RS t zs)) := RS_end HWs.out HFa.out hL
        have HRs0 : Hid (rsv t (topI t zs) t.length (T0 t zs) = RS t zs) := rfl
        generalize topI t zs = L at *
        have hLb : (L == 0) = false := by simpa using hL
        have HLa : Hid (Calls Try.prog 37 #[.slice a t.length c, .slice ca (tid zs).length cc, .int .i64 L] wr fun e w' => ∃ one, e = .returned (.tuple #[.int .i64 (cn t L (T0 t zs) t.length : Int), .int .i64 one]) ∧ RfL t L zs t.length (T0 t zs) one ∧ w' = wr) := (rLast_any _ _ t (tid zs) L wr HRe2.out HRd2.out HWs.out HFt.out).mono fun e w' ⟨one, h1, h2, h3⟩ => by
          rw [HTt.out, HWs.out.tid_cn] at h1
          rw [HTt.out] at h2
          exact ⟨one, h1, ⟨HIv0.out, HRs0.out, HCn0.out, h2.lastP HWs.out HCn0.out⟩, h3⟩
        go_wp2_with (go_at_call 37; refine HLa.out.mono ?_; rintro e w3 ⟨one, rfl, h3, hw⟩; obtain rfl := hw; have H3 : Hid (RfL t L zs t.length (T0 t zs) one) := h3; clear h3)
        have H4 : Hid (Own w.heap.size w3 (.slice ca (tid zs).length cc) (tid (ltS t (T0 t zs)))) := by rw [← HTt.out]; exact H2.out.1
        have H5 : Hid (Below w.heap.size w w3) := H2.out.2
        clear HLa HRd2 HRe2
        go_loopg [8, 11, 12] t.length (fun g' u n o wr => ∃ (T : Int → Bool) (one : Int), n = .int .i64 (cn t L T t.length : Int) ∧ o = .int .i64 one ∧ Hid (Own w.heap.size wr u (tid (ltS t T))) ∧ Hid (RfL t L zs g' T one) ∧ Hid (Below w.heap.size w wr))
        case atStart => exact ⟨_, one, rfl, rfl, H4.out, H3.out, H5.out⟩
        case round =>
          obtain ⟨T, one, rfl, rfl, HO, HF, HB⟩ := hrel
          have htl3 := tid_len (ltS t T)
          obtain ⟨oa, oc, hu⟩ := own_form HO.out
          subst hu
          have HRc : Hid (Rd wr (.slice oa (tid (ltS t T)).length oc) (tid (ltS t T))) := HO.out.rd (by omega)
          by_cases hc1 : 1 < cn t L T t.length
          · obtain ⟨p, hp1, hp2, hp3, hp4, hp5, hp6, hp7⟩ := HF.out.step HWs.out hc1
            obtain ⟨T', hT'⟩ : ∃ T', adS t (outS T (p : Int)) (rOth t p) = T' := ⟨_, rfl⟩
            rw [hT'] at hp6 hp7
            have HSt : Hid (∀ one', LaS t L (tid (ltS t T')) one' → RfL t L zs p T' one') := hp7
            have hfo := (HWs.out.isF_at hp5).1
            have hfr := fmd_range hfo
            have hwn : IntKind.i64.wrap (-one) = -one := by rw [IntKind.wrap_i64]; omega
            have HRw : Hid (RdE wr (.slice a t.length c) t) := HR.out.below HB.out
            have HPl : Hid (Calls Try.prog 27 #[.slice a t.length c, .int .i64 one] wr fun e w' => e = .returned (.int .i64 (p : Int)) ∧ w' = wr) := by rw [← hp3]; exact rPlace_any _ t one wr HRw.out hfo
            obtain ⟨b, off, u, rfl, hbl, c0, c1, c2, hru⟩ := HRw.out.at hp2
            have hlr := hru.len
            obtain ⟨ra, rc, rfl, hrc, hrm, _⟩ := hru.form
            have HC2 : Hid (∀ W, Below wr.heap.size wr W → W.cell? ⟨b, off + p * 3 + 2, none⟩ = some (.slice ra (t.getD p e0).2.2.length rc)) := fun W hW => (hW.cell (p := ⟨b, off + p * 3 + 2, none⟩) hbl).trans c2
            have HWo1 : Hid (∀ W, Below wr.heap.size wr W → Calls Try.prog 39 #[.slice oa (tid (ltS t T)).length oc, .int .i64 one] W fun e w' => ∃ v', e = .returned v' ∧ Own W.heap.size w' v' (wout (tid (tid (ltS t T))) one) ∧ Below W.heap.size W w') := fun W hW => refWithout_any _ _ one W (HRc.out.below hW)
            have HWo2 : Hid (∀ W, Below wr.heap.size wr W → Calls Try.prog 39 #[.slice ra (t.getD p e0).2.2.length rc, .int .i64 (-one)] W fun e w' => ∃ v', e = .returned v' ∧ Own W.heap.size w' v' (wout (tid (t.getD p e0).2.2) (-one)) ∧ Below W.heap.size W w') := fun W hW => refWithout_any _ _ (-one) W (hru.below hW)
            have hA8 : (wout (tid (tid (ltS t T))) one).length * 8 ≤ 140737488351232 := by have h1 := wout_len (tid (tid (ltS t T))) one; have h2 := tid_len (tid (ltS t T)); omega
            have hB8 : (wout (tid (t.getD p e0).2.2) (-one)).length * 8 ≤ 140737488351232 := by have h1 := wout_len (tid (t.getD p e0).2.2) (-one); have h2 := tid_len (t.getD p e0).2.2; omega
            have HJo : Hid (∀ W v5 v6, Own w.heap.size W v5 (wout (tid (tid (ltS t T))) one) → Own w.heap.size W v6 (wout (tid (t.getD p e0).2.2) (-one)) → Calls Try.prog 38 #[v5, v6] W fun e w' => ∃ v', e = .returned v' ∧ Own W.heap.size w' v' (tid (ltS t T')) ∧ Below W.heap.size W w') := fun W v5 v6 h5 h6 => by
              rw [← hp6]
              exact refJoin_any v5 v6 _ _ W (h5.rd hA8) (h6.rd hB8)
            have htl4 := tid_len (ltS t T')
            have HLa : Hid (∀ W u, Below w.heap.size w W → Own w.heap.size W u (tid (ltS t T')) → Calls Try.prog 37 #[.slice (some ⟨b, off, none⟩) t.length c, u, .int .i64 L] W fun e w' => ∃ one', e = .returned (.tuple #[.int .i64 (cn t L T' t.length : Int), .int .i64 one']) ∧ RfL t L zs p T' one' ∧ w' = W) := fun W u hW ho =>
              (rLast_any _ _ t (tid (ltS t T')) L W (HR.out.below hW) (ho.rd (by omega)) HWs.out (isF_tid HWs.out)).mono fun e w' ⟨one', h1, h2, h3⟩ => by
                rw [HWs.out.tid_cn] at h1
                exact ⟨one', h1, HSt.out one' h2, h3⟩
            have hcc : (1 : Int) < (cn t L T t.length : Int) := by omega
            clear hp6 hp7 hp3 hp4 hp5 hfo hfr hru c0 c1 hT' HRw hc1
            generalize (cn t L T t.length : Int) = n1 at *
            generalize hn2 : (cn t L T' t.length : Int) = n2 at *
            have HN2 : Hid ((cn t L T' t.length : Int) = n2) := hn2
            clear hn2
            generalize wout (tid (tid (ltS t T))) one = A5 at *
            generalize wout (tid (t.getD p e0).2.2) (-one) = A6 at *
            generalize hC7 : tid (ltS t T') = C7 at *
            have HC7 : Hid (tid (ltS t T') = C7) := hC7
            clear hC7
            generalize (t.getD p e0).2.2.length = rl at *
            go_upto_region 16 with (go_at_call 27; refine HPl.out.mono ?_; rintro e w' ⟨rfl, hw⟩; obtain rfl := hw.symm)
            go_region_held (fun W' => Below wr.heap.size wr W' ∧ W'.cell? ⟨b, off + p * 3 + 2, none⟩ = some (.slice ra rl rc)) (first | exact ⟨(Below.refl _ _).drew, HC2.out _ (Below.refl _ _).drew⟩ | exact ⟨K7.out.1, HC2.out _ K7.out.1⟩ | exact ⟨K6.out.1, HC2.out _ K6.out.1⟩ | exact ⟨K5.out.1, HC2.out _ K5.out.1⟩) (first
              | (go_at_call 39; first
                  | (have k5 := K5.out; refine (HWo2.out _ k5.1).mono ?_; rintro e w6 ⟨v6, rfl, o6, b6⟩; have K6 : Hid (Below wr.heap.size wr w6 ∧ Own w.heap.size w6 v5 A5 ∧ Own w.heap.size w6 v6 A6) := ⟨Below.step k5.1 b6, k5.2.below b6, o6.mono (Nat.le_trans HB.out.size k5.1.size)⟩; clear k5 o6 b6)
                  | (refine (HWo1.out _ (Below.refl _ _).drew).mono ?_; rintro e w5 ⟨v5, rfl, o5, b5⟩; have K5 : Hid (Below wr.heap.size wr w5 ∧ Own w.heap.size w5 v5 A5) := ⟨Below.step (Below.refl _ _).drew b5, o5.mono HB.out.size⟩; clear o5 b5))
              | (go_at_call 38; refine (HJo.out _ _ _ K6.out.2.1 K6.out.2.2).mono ?_; rintro e w7 ⟨v7, rfl, o7, b7⟩; have K7 : Hid (Below wr.heap.size wr w7 ∧ Own w.heap.size w7 v7 C7) := ⟨Below.step K6.out.1 b7, o7.mono (Nat.le_trans HB.out.size K6.out.1.size)⟩; clear o7 b7))
            all_goals
              go_wp2_with (go_at_call 37; refine (HLa.out _ _ (Below.step HB.out K7.out.1) K7.out.2).mono ?_; rintro e w8 ⟨one2, rfl, h8, hw⟩; obtain rfl := hw.symm; have K8 : Hid (RfL t L zs p T' one2) := h8; clear h8)
              go_roundg p
              case measure => exact hp1
              case rel => exact ⟨T', one2, by rw [HN2.out], rfl, by rw [HC7.out]; exact K7.out.2, K8.out, Below.step HB.out K7.out.1⟩
          · have hcn1 : cn t L T t.length = 1 := by have := HF.out.pos; omega
            have hTR : RS t zs = T := by rw [← HF.out.rs]; exact rsv_stop (by omega) gk
            have hEt := HWs.out.end_tid (by rw [← hTR]; exact HRSe.out.2) hcn1 hL HF.out.la
            have HE1' : Hid (lrnB t zs = topI t ((tid (ltS t T)).filter fun x => x != one && decide (0 < lvl t x))) := by
              show _ = _
              rw [HE1.out, hTR, hEt.2]
              exact topI_congr t fun x => ⟨fun h => mem_tid.2 ⟨h, (HWs.out.ltS_fmd (List.mem_filter.1 h).1)⟩, fun h => (mem_tid.1 h).1⟩
            have HE2' : Hid (lrnC t zs = one :: (tid (ltS t T)).filter fun x => x != one && decide (0 < lvl t x)) := by
              show _ = _
              rw [HE2.out, hTR, hEt.2, ← hEt.1]
            have HFc : Hid (∀ x ∈ tid (ltS t T), isF t x = true) := isF_tid HWs.out
            have hcc : ¬ (1 : Int) < (cn t L T t.length : Int) := by omega
            have HRw : Hid (RdE wr (.slice a t.length c) t) := HR.out.below HB.out
            have hws := HB.out.size
            clear HE1 HE2 HF hTR hEt hcn1 hc1
            generalize (cn t L T t.length : Int) = n1 at *
            generalize tid (ltS t T) = C at *
            obtain ⟨i0, hi, hz0, hz1, hz2⟩ := info_parts Try.info3
            obtain ⟨NB, hNB⟩ : ∃ NB, wr.heap.size = NB := ⟨_, rfl⟩
            have HNB : Hid (wr.heap.size = NB) := hNB
            have HO1 : Hid (Own NB (wr.alloc (.cells #[.int .i64 one] 3)) (.slice (some ⟨NB, 0, none⟩) 1 1) [one]) := by rw [← hNB]; exact own_one15 wr one
            have hwN : w.heap.size ≤ NB := by rw [← hNB]; exact hws
            have HB2 : Hid (Below wr.heap.size wr (wr.alloc (.cells #[.int .i64 one] 3))) := below_box _ _
            have HCn : Hid (∀ W, Below wr.heap.size wr W → Rd W (.slice oa C.length oc) C ∧ RdE W (.slice a t.length c) t ∧ Below w.heap.size w W) := fun W hW => ⟨HRc.out.below hW, HRw.out.below hW, Below.step HB.out hW⟩
            go_wp2_with fail
            go_loopg [14, 15, 16] C.length (fun g' u bk i wq => ∃ k : Nat, k + g' = C.length ∧ bk = .int .i64 (topI t ((C.take k).filter fun x => x != one && decide (0 < lvl t x))) ∧ i = .int .i64 k ∧ Hid (Own NB wq u (one :: (C.take k).filter fun x => x != one && decide (0 < lvl t x))) ∧ Hid (Below wr.heap.size wr wq))
            case atStart => exact ⟨0, by omega, rfl, rfl, HO1.out, HB2.out⟩
            case round =>
              obtain ⟨k, hk, rfl, rfl, HQ, HBq⟩ := hrel
              have HK : Hid (k + gk = C.length) := hk
              obtain ⟨hrc, hre, hbw⟩ := HCn.out wr HBq.out
              have HBw : Hid (Below w.heap.size w wr) := hbw
              have hsw := hbw.size
              have hsN : NB ≤ wr.heap.size := by rw [← HNB.out]; exact HBq.out.size
              by_cases hlt : k < C.length
              · obtain ⟨ua', uc', e', _, _, hcell⟩ := hrc.form
                injection e' with q1 q2 q3
                subst q1 q3
                obtain ⟨b2, off2, rfl, hck⟩ := hcell k hlt
                have hmem := getD_mem' (l := C) (k := k) (d := 0) hlt
                have HLv : Hid (Calls Try.prog 36 #[.slice a t.length c, .int .i64 (C.getD k 0)] wr fun e w' => e = .returned (.int .i64 (lvl t (C.getD k 0))) ∧ w' = wr) := by
                  rw [← HWs.out.lvR_lvl (HFc.out _ hmem)]; exact rLevel_any _ t _ wr hre (HWs.out.isF_at (HFc.out _ hmem)).1
                have hfl := List.length_filter_le (fun x => x != one && decide (0 < lvl t x)) (C.take k)
                rw [List.length_take] at hfl
                have HYes := filter_yes (q := fun x => x != one && decide (0 < lvl t x)) hlt
                have HNo := filter_no (q := fun x => x != one && decide (0 < lvl t x)) hlt
                obtain ⟨D, hD⟩ : ∃ D, one :: (C.take k).filter (fun x => x != one && decide (0 < lvl t x)) = D := ⟨_, rfl⟩
                have hDl : D.length ≤ 2097153 := by rw [← hD]; simp; omega
                rw [hD] at HQ
                by_cases hy1 : C.getD k 0 = one
                · have HN : Hid ((C.take (k + 1)).filter (fun x => x != one && decide (0 < lvl t x)) = (C.take k).filter (fun x => x != one && decide (0 < lvl t x))) := HNo (by rw [hy1]; simp)
                  have HD : Hid (one :: (C.take k).filter (fun x => x != one && decide (0 < lvl t x)) = D) := hD
                  rw [hy1] at hck HLv
                  clear hk hcell hmem HYes HNo hD hfl hy1 hrc hre hbw
                  generalize lvl t one = ly at *
                  go_wp2_with (go_at_call 36; refine HLv.out.mono ?_; rintro e w' ⟨rfl, hw⟩; obtain rfl := hw.symm)
                  go_roundg (gk - 1)
                  case measure => have := HK.out; omega
                  case rel => exact ⟨k + 1, by have := HK.out; omega, by rw [HN.out], by go_num, by rw [HN.out, HD.out]; exact HQ.out, HBq.out⟩
                have hyb : (C.getD k 0 != one) = true := by simpa using hy1
                by_cases hy2 : 0 < lvl t (C.getD k 0)
                · have hN := HYes (by rw [hyb, decide_eq_true hy2]; rfl)
                  have HN : Hid (one :: (C.take (k + 1)).filter (fun x => x != one && decide (0 < lvl t x)) = D ++ [C.getD k 0]) := by show _ = _; rw [hN, ← hD]; rfl
                  have HM : Hid (topI t ((C.take (k + 1)).filter fun x => x != one && decide (0 < lvl t x)) = max (topI t ((C.take k).filter fun x => x != one && decide (0 < lvl t x))) (lvl t (C.getD k 0))) := by show _ = _; rw [hN, topI_snoc]
                  clear hk hcell hmem HYes HNo hD hfl hy1 hrc hre hbw hN
                  generalize C.getD k 0 = y at *
                  generalize lvl t y = ly at *
                  generalize topI t ((C.take k).filter fun x => x != one && decide (0 < lvl t x)) = m at *
                  by_cases hgt : m < ly
                  · have HM2 : Hid (topI t ((C.take (k + 1)).filter fun x => x != one && decide (0 < lvl t x)) = ly) := by show _ = _; rw [HM.out]; omega
                    clear HM
                    go_wp2_with (first | (go_at_call 36; refine HLv.out.mono ?_; rintro e w' ⟨rfl, hw⟩; obtain rfl := hw.symm) | (at_builtin; refine wpList_append_own _ rfl _ _ 26 rfl NB 3 i0 (.int .i64 0) 1 8 Try.underlying26 hi hz0 hz1 hz2 rfl (by decide) _ D.length (D.map (Value.int .i64)) rfl (World.ownsRow.alloc HQ.out _) _ 1 1 [.int .i64 y] rfl rfl (cell_one_new _ _ _) (by simp [Value.oneCell']) (by unfold maxLen; omega) (by omega) (by simp; omega) ?_; intro v3 w3 own3 gr3 hn3))
                    go_roundg (gk - 1)
                    case measure => have := HK.out; omega
                    case rel => exact ⟨k + 1, by have := HK.out; omega, by rw [HM2.out], by go_num, by rw [HN.out]; show World.ownsRow _ _ _ _ _ _ _; simpa using own3, (HBq.out.alloc HBq.out.size _).grown gr3 (by have := HBq.out.size; simp; omega) (fun j hj => by rw [HNB.out]; exact (World.ownsRow.lt HQ.out j hj).1)⟩
                  · have HM2 : Hid (topI t ((C.take (k + 1)).filter fun x => x != one && decide (0 < lvl t x)) = m) := by show _ = _; rw [HM.out]; omega
                    clear HM
                    go_wp2_with (first | (go_at_call 36; refine HLv.out.mono ?_; rintro e w' ⟨rfl, hw⟩; obtain rfl := hw.symm) | (at_builtin; refine wpList_append_own _ rfl _ _ 26 rfl NB 3 i0 (.int .i64 0) 1 8 Try.underlying26 hi hz0 hz1 hz2 rfl (by decide) _ D.length (D.map (Value.int .i64)) rfl (World.ownsRow.alloc HQ.out _) _ 1 1 [.int .i64 y] rfl rfl (cell_one_new _ _ _) (by simp [Value.oneCell']) (by unfold maxLen; omega) (by omega) (by simp; omega) ?_; intro v3 w3 own3 gr3 hn3))
                    go_roundg (gk - 1)
                    case measure => have := HK.out; omega
                    case rel => exact ⟨k + 1, by have := HK.out; omega, by rw [HM2.out], by go_num, by rw [HN.out]; show World.ownsRow _ _ _ _ _ _ _; simpa using own3, (HBq.out.alloc HBq.out.size _).grown gr3 (by have := HBq.out.size; simp; omega) (fun j hj => by rw [HNB.out]; exact (World.ownsRow.lt HQ.out j hj).1)⟩
                · have HN : Hid ((C.take (k + 1)).filter (fun x => x != one && decide (0 < lvl t x)) = (C.take k).filter (fun x => x != one && decide (0 < lvl t x))) := HNo (by rw [decide_eq_false hy2]; simp)
                  have HD : Hid (one :: (C.take k).filter (fun x => x != one && decide (0 < lvl t x)) = D) := hD
                  clear hk hcell hmem HYes HNo hD hfl hy1 hrc hre hbw
                  generalize C.getD k 0 = y at *
                  generalize lvl t y = ly at *
                  go_wp2_with (go_at_call 36; refine HLv.out.mono ?_; rintro e w' ⟨rfl, hw⟩; obtain rfl := hw.symm)
                  go_roundg (gk - 1)
                  case measure => have := HK.out; omega
                  case rel => exact ⟨k + 1, by have := HK.out; omega, by rw [HN.out], by go_num, by rw [HN.out, HD.out]; exact HQ.out, HBq.out⟩
              · obtain rfl : k = C.length := by omega
                rw [List.take_length] at HQ ⊢
                have HQ2 : Hid (Own w.heap.size wr u14 (lrnC t zs)) := by rw [HE2'.out]; exact HQ.out.mono hwN
                rw [← HE1'.out]
                clear hk hrc hre hbw
                go_wp2
                go_ret3
                exact ⟨⟨u14, rfl, HQ2.out⟩, HBw.out⟩
end Go.Proofs.Ytkchabdlpeifjaa
