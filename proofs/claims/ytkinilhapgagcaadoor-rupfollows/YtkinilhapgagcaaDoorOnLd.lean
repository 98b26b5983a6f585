/-
  rup: lead.
  KEEP: set on app at below new trans refl start ap kept rd rds mono lt add none own nil put len pos setF setV putL putR other neV same_any num form
-/
import Derived.Test.YtkinilhapgagcaaDoorOnS
import Derived.Test.YtkinilhapgagcaaDoorUnBe
import Derived.Test.YtkinilhapgagcaaDoorOnG
import Derived.Test.YtkinilhapgagcaaDoorUnY
set_option linter.unusedSimpArgs false
set_option linter.unusedVariables false
namespace Go.Proofs.YtkinilhapgagcaaDoor
open Go Go.RowKit

theorem red_len (K c : List Int) : (red K c).length ≤ c.length := by
  unfold red
  split
  · simp
  · exact List.length_filter_le _ _
theorem lsum_reds (K : List Int) : ∀ l : List (List Int), lsum (reds K l) ≤ lsum l
  | [] => Nat.le_refl _
  | c :: r => by
    have h1 := lsum_reds K r
    have h2 := red_len K c
    have e1 : lsum (reds K (c :: r)) = (red K c).length + lsum (reds K r) := by simp [lsum, reds]
    have e2 : lsum (c :: r) = c.length + lsum r := by simp [lsum]
    omega
theorem ent_reds_sum {K : List Int} {css : List (List Int)} {j : Nat} (h : j < css.length) : lsum (ent (reds K css) j) + (css.getD j []).length ≤ lsum css := by
  have h1 := ent_sum h
  have h2 : lsum (ent (reds K css) j) ≤ lsum (ent css j) := by
    have e : ent (reds K css) j = reds K (css.take j) ++ List.replicate (css.length - j) [] := by unfold ent reds; rw [List.map_take, List.length_map]
    rw [e]
    unfold ent
    rw [lsum_append, lsum_append]
    have := lsum_reds K (css.take j)
    omega
  omega
theorem flt_red {K c : List Int} (h : anyK K c = false) : flt K c = red K c := by
  unfold red
  rw [if_neg (by unfold anyK at h; rw [h]; decide)]
  rfl
theorem red_any {K c : List Int} (h : anyK K c = true) : red K c = [] := by
  unfold red
  unfold anyK at h
  rw [if_pos h]
theorem ent_next {X : List (List Int)} {j : Nat} (h : j < X.length) (h0 : X.getD j [] = []) : ent X j = ent X (j + 1) := by
  rw [← ent_set h, h0]
  apply List.ext_getElem?
  intro i
  by_cases e : j = i
  · subst e
    have h2 := ent_at h
    have hl : j < (ent X j).length := by rw [ent_len (by omega)]; exact h
    rw [List.getElem?_set_self hl, List.getElem?_eq_getElem hl]
    rw [List.getD_eq_getElem?_getD, List.getElem?_eq_getElem hl] at h2
    simpa using h2
  · rw [List.getElem?_set_ne e]
theorem Ov.setI {w0 W : World} {b : Nat} {s : Sy} {n : Nat} {K : List Int} {X : List (List Int)} (h : Ov w0 W b s n K X) {l : Int} {i g cap : Nat} (hf : fmd l = true) (hi : idx l = i) (hin : i < n) (hv : s.I = .slice (some ⟨g, 0, none⟩) n cap) : Ov w0 (W.setCell ⟨g, i, none⟩ (.bool true)) b s n (K ++ [l]) X := by
  obtain ⟨F, P, hz, hp⟩ := h.z
  obtain ⟨z1, m1⟩ := hz.setI hv hin true
  rw [inLs_set (L' := K ++ [l]) h.fit.hn hf hi true (by simp) (fun x hx => by simp [hx])] at z1
  exact ⟨Mo.bel h.bel (fun k hk => (hz.lt k hk).1) m1, h.fit, F, P, z1, hp⟩
theorem Ov.skipI {w0 W : World} {b : Nat} {s : Sy} {n : Nat} {K : List Int} {X : List (List Int)} (h : Ov w0 W b s n K X) {l : Int} (hin : ¬ idx l < n) : Ov w0 W b s n (K ++ [l]) X := by
  obtain ⟨F, P, hz, hp⟩ := h.z
  rw [inLs_congr (L' := K ++ [l]) h.fit.hn (fun x _ hx => ⟨fun h2 => List.mem_append.2 (.inl h2), fun h2 => (List.mem_append.1 h2).elim id fun h3 => by
    have e : x = l := by simpa using h3
    subst e; exact absurd hx hin⟩)] at hz
  exact ⟨h.bel, h.fit, F, P, hz, hp⟩
theorem grt_fit {css : List (List Int)} (hf : ∀ c ∈ css, ∀ l ∈ c, fmd l = true) {n : Nat} (hn : n = 2 * (grt css).toNat) : ∀ c ∈ css, ∀ l ∈ c, fmd l = true ∧ idx l < n := fun c hc l hl => by
  have h1 := hf c hc l hl
  have h2 := idx_lt2 h1
  have h3 := (grt_range css).2.2 c hc l hl
  have h4 := (grt_range css).1
  exact ⟨h1, by omega⟩
set_option maxRecDepth 100000 in
set_option maxHeartbeats 3200000 in
theorem oLead_any (v : Int) (s vk : Value) (css : List (List Int)) (K : List Int) (w : World) (hr : Rds w s css) (hk : Rd w vk K) (hw : Few css) (hf : ∀ c ∈ css, ∀ l ∈ c, fmd l = true) (hKf : ∀ x ∈ K, fmd x = true) :
    Calls Tryd.prog 42 #[.agg #[.int .i64 v, s], vk] w fun e w' => ∃ b sy, e = .returned (.pointer (some ⟨b, 0, none⟩)) ∧ Ow w w' b sy (2 * (grt css).toNat) css K [] [] ∧ sy.C = s := by
  have HR : Hid (Rds w s css ∧ Rd w vk K ∧ Few css ∧ (∀ c ∈ css, ∀ l ∈ c, fmd l = true) ∧ ∀ x ∈ K, fmd x = true) := ⟨hr, hk, hw, hf, hKf⟩
  obtain ⟨a, c, es, h1, h2, -⟩ := hr.form
  have hg := grt_range css
  obtain ⟨G, hG⟩ : ∃ G : Nat, grt css = (G : Int) := ⟨(grt css).toNat, by omega⟩
  have hGb : G ≤ 1048576 := by omega
  have HG : Hid (grt css = (G : Int)) := hG
  have HES : Hid (s = .slice a css.length c) := es
  have hN := hw.num
  have hKl := hk.len
  clear hr hk hw hf hKf hg hG es
  go_enter Tryd.func42, Tryd.ntmps42
  go_wp2_with fail
  refine (oGreatest_any v s css _ (HR.out.1.below (below_box _ _)) hN HR.out.2.2.1.len).mono ?_
  rintro e w1 ⟨rfl, bel1⟩
  rw [HG.out]
  have HB1 : Hid (Below w.heap.size w w1) := Below.step (below_box _ _) bel1
  have k0 : w1.cell? ⟨w.heap.size, 0, none⟩ = some (.int .i64 v) := (bel1.cell (p := ⟨w.heap.size, 0, none⟩) (by rw [World.size_alloc]; exact Nat.lt_succ_self _)).trans (box0 w _ _ _)
  have k1 : w1.cell? ⟨w.heap.size, 1, none⟩ = some s := (bel1.cell (p := ⟨w.heap.size, 1, none⟩) (by rw [World.size_alloc]; exact Nat.lt_succ_self _)).trans (box1 w _ _ _)
  have HBx0 : Hid (w1.heap[w.heap.size]? = some (.cells #[.int .i64 v, s] 24 (0, 0))) := (bel1.block _ (by rw [World.size_alloc]; exact Nat.lt_succ_self _)).trans (World.alloc_heap_new w _)
  clear bel1
  obtain ⟨n, hn2⟩ : ∃ n : Nat, 2 * (G : Int) = (n : Int) := ⟨2 * G, by omega⟩
  have hn : n ≤ 2097152 := by omega
  have HN2 : Hid (n = 2 * G) := by show _ = _; omega
  have hev : n % 2 = 0 := by omega
  have hGw : IntKind.i64.wrap (2 * (G : Int)) = (n : Int) := by rw [IntKind.wrap_i64]; omega
  have HBx1 : Hid (w1.heap[w.heap.size]? = some (.cells #[.int .i64 v, s] 24 (0, 0))) := HBx0.out
  go_upto_region 2 with fail
  refine lead_region _ w w1 v s a css.length c n w.heap.size _ _ _ _ _ _ _ _ _ _ _ _ _ _ _ _ _ _ _ _ _ _ _ _ _ _ _ _ _ _ _ _ _ _ _ _ _ _ _ _ _ _ _ _ _ _ _ _ _ _ _ _ _ _ _ _ _ _ _ _ _ _ HES HB1.out hN hn hev k1 ?_
  intro W x6 x15 x16 x17 x18 x19 x20 x21 x22 x23 x24 x25 x26 x27 b sy e6 hov hC hbel
  subst e6
  have HO : Hid (Ov w W b sy n [] (List.replicate css.length []) ∧ sy.C = s ∧ W.heap[w.heap.size]? = some (.cells #[.int .i64 v, s] 24 (0, 0))) := ⟨hov, hC, (hbel.block _ (Array.getElem?_eq_some_iff.1 HBx1.out).1).trans HBx1.out⟩
  obtain ⟨ak, ck, ek, hk1, hk2, hkc⟩ := HR.out.2.1.form
  have HC : Hid (∀ (W : World) (j : Nat), Below w.heap.size w W → j < K.length → ∃ bb off, ak = some ⟨bb, off, none⟩ ∧ W.cell? ⟨bb, off + j, none⟩ = some (.int .i64 (K.getD j 0))) := fun W j hW hj => by
    obtain ⟨bb, off, e, hc⟩ := hkc j hj
    exact ⟨bb, off, e, (hW.cell (p := ⟨bb, off + j, none⟩) (World.block_lt_of_cell? w _ hc)).trans hc⟩
  clear hov hC hbel hkc k0 k1
  subst ek
  generalize W = w2 at *
  go_wp2
  go_loopg [30] K.length (fun g j' wr => ∃ j : Nat, j + g = K.length ∧ j' = .int .i64 j ∧ Ov w wr b sy n (K.take j) (List.replicate css.length []) ∧ wr.heap[w.heap.size]? = some (.cells #[.int .i64 v, s] 24 (0, 0)))
  case atStart => exact ⟨0, by omega, rfl, by simpa using HO.out.1, HO.out.2.2⟩
  case round =>
    obtain ⟨j, hj, rfl, hov, hbx⟩ := hrel
    have HJ : Hid (j + gk = K.length) := hj
    have HV : Hid (Ov w wr b sy n (K.take j) (List.replicate css.length []) ∧ wr.heap[w.heap.size]? = some (.cells #[.int .i64 v, s] 24 (0, 0))) := ⟨hov, hbx⟩
    clear hj hov hbx
    by_cases hlt : j < K.length
    · obtain ⟨bb, off, rfl, c1⟩ := HC.out wr j HV.out.1.bel hlt
      have hlf := HR.out.2.2.2.2 _ (getD_mem' (d := 0) hlt)
      have HTk : Hid (K.take (j + 1) = K.take j ++ [K.getD j 0]) := take_succ_getD K 0 j hlt
      have HLT : Hid (j < K.length) := hlt
      generalize K.getD j 0 = l at *
      obtain ⟨i, hi⟩ : ∃ i : Nat, idx l = i := ⟨(idx l).toNat, by have := idx_range hlf; omega⟩
      have hib : i < 2097152 := by have := idx_range hlf; omega
      have HI : Hid (idx l = i) := hi
      by_cases hin : i < n
      · obtain ⟨F, P, hz, -⟩ := HV.out.1.z
        obtain ⟨gI, cI, eI, i1, i2, i3⟩ := row_some hz.i (by omega)
        have b1 := hz.c1
        have rI := hz.i
        rw [eI] at b1 rI
        have kI := row_cell rI (j := i) (x := .bool (decide (l ∈ K.take j))) (by rw [List.getElem?_map, inLs_at hlf hi hin]; rfl)
        have zI := row_fz rI i
        have HF : Hid (Ov w (wr.setCell ⟨gI, i, none⟩ (.bool true)) b sy n (K.take (j + 1)) (List.replicate css.length []) ∧ (wr.setCell ⟨gI, i, none⟩ (.bool true)).heap[w.heap.size]? = some (.cells #[.int .i64 v, s] 24 (0, 0))) := ⟨by rw [HTk.out]; exact HV.out.1.setI hlf hi hin eI, box_other (e := 4) HV.out.2 (grown_set wr ⟨gI, i, none⟩ (.bool true)) (fun x e => row_ty rI (by rw [← e]; rfl)) (by decide)⟩
        clear hz rI eI hi
        generalize decide (l ∈ K.take j) = dl at *
        go_wp2_with fail
        refine (index_any _ _).mono ?_
        rintro e w9 ⟨rfl, hw9⟩
        obtain rfl : wr = w9 := hw9.symm
        rw [HI.out]
        clear hw9
        go_wp2
        go_roundg (gk - 1)
        case measure => have := HJ.out; have := HLT.out; omega
        case rel => exact ⟨j + 1, by have := HJ.out; have := HLT.out; omega, by go_num, HF.out.1, HF.out.2⟩
      · have HF : Hid (Ov w wr b sy n (K.take (j + 1)) (List.replicate css.length [])) := by rw [HTk.out]; exact HV.out.1.skipI (by omega)
        clear hi
        go_wp2_with fail
        refine (index_any _ _).mono ?_
        rintro e w9 ⟨rfl, hw9⟩
        obtain rfl : wr = w9 := hw9.symm
        rw [HI.out]
        clear hw9
        go_wp2
        go_roundg (gk - 1)
        case measure => have := HJ.out; have := HLT.out; omega
        case rel => exact ⟨j + 1, by have := HJ.out; have := HLT.out; omega, by go_num, HF.out, HV.out.2⟩
    · have hje : j = K.length := by have := HJ.out; omega
      have HV2 : Hid (Ov w wr b sy n K (ent (reds K css) 0)) := by
        have := HV.out.1
        rw [hje, List.take_length] at this
        rw [ent_zero, reds_len]
        exact this
      have q1 : wr.cell? ⟨w.heap.size, 1, none⟩ = some s := by simp [World.cell?, HV.out.2]
      rw [HES.out] at q1
      have HsC : Hid (sy.C = s) := HO.out.2.1
      clear hje HV HO
      generalize wr = w3 at *
      obtain ⟨-, -, es2, -, -, hAT⟩ := HR.out.1.form
      have HLit : Hid (∀ c ∈ css, ∀ l ∈ c, fmd l = true ∧ idx l < n) := grt_fit HR.out.2.2.2.1 (by rw [HG.out]; have := HN2.out; omega)
      go_wp2
      go_loopg [49] css.length (fun g j' wr => ∃ (j : Nat) (u : Value), j + g = css.length ∧ j' = .int .i64 j ∧ Ov w wr b { sy with P := u } n K (ent (reds K css) j))
      case atStart => exact ⟨0, sy.P, by omega, rfl, HV2.out⟩
      case round =>
        obtain ⟨j, u, hj, rfl, hov⟩ := hrel
        have HJ : Hid (j + gk = css.length) := hj
        have HV : Hid (Ov w wr b { sy with P := u } n K (ent (reds K css) j)) := hov
        clear hj hov
        by_cases hlt : j < css.length
        · have hrw := HR.out.1.below HV.out.bel
          obtain ⟨a4, c4, e4, -, -, hat4⟩ := hrw.form
          obtain ⟨b4, o4, ux, ea4, kc4, hrd4⟩ := hat4 j hlt
          have hrd0 : Rd w ux (css.getD j []) := by
            obtain ⟨a5, c5, e5, -, -, hat5⟩ := HR.out.1.form
            obtain ⟨b5, o5, ux5, ea5, kc5, hrd5⟩ := hat5 j hlt
            rw [HES.out] at e4 e5
            injection e4 with e41 e42 e43
            injection e5 with e51 e52 e53
            rw [← e41, e51, ea5] at ea4
            injection ea4 with ea4
            injection ea4 with ea6 ea7
            subst ea6; subst ea7
            have := (HV.out.bel.cell (p := ⟨b5, o5 + j, none⟩) (World.block_lt_of_cell? w _ kc5)).trans kc5
            rw [kc4] at this
            injection this with this
            rw [this]; exact hrd5
          rw [HES.out] at e4
          injection e4 with e41 e42 e43
          subst e41; subst e43; subst ea4
          clear e42
          have hjr : j < (reds K css).length := by rw [reds_len]; exact hlt
          have hjX : j < (ent (reds K css) j).length := by rw [ent_len (by omega)]; exact hjr
          have hlits := HLit.out _ (getD_in hlt)
          have hlen := HR.out.2.2.1.len _ (getD_in hlt)
          have HEnt : Hid (anyK K (css.getD j []) = false → ∀ W, Below wr.heap.size wr W → Calls Tryd.prog 63 #[.pointer (some ⟨b, 0, none⟩), .int .i32 (j : Int), ux] W fun e w' => e = .returned (.tuple #[]) ∧ ∃ u2, Ov w w' b { sy with P := u2 } n K (ent (reds K css) (j + 1))) := fun hno W hW => (oEnter_any w b { sy with P := u } n K (ent (reds K css) j) j ux (css.getD j []) W (HV.out.below hW) hrd0 hjX (ent_at hjr) (fun k hk => ent_gt hk) hlits hlen (Nat.le_trans (ent_reds_sum hlt) HR.out.2.2.1.sum)).mono fun e w' hh => by
            obtain ⟨he, u2, hen⟩ := hh
            refine ⟨he, u2, ?_⟩
            rw [← ent_set hjr, reds_at K css j hlt, ← flt_red hno]
            exact hen.ce
          have HSk : Hid (anyK K (css.getD j []) = true → ent (reds K css) j = ent (reds K css) (j + 1)) := fun hy => ent_next hjr (by rw [reds_at K css j hlt]; exact red_any hy)
          obtain ⟨F, P, hz, -⟩ := HV.out.z
          have HAn : Hid (Calls Tryd.prog 62 #[.pointer (some ⟨b, 0, none⟩), ux] wr fun e w' => e = .returned (.bool (anyK K (css.getD j []))) ∧ Below wr.heap.size wr w') := oAny_z _ b _ n _ K _ F P [] [] ux (css.getD j []) wr hz hn hrd4 hlits hlen
          obtain ⟨au, cu, eu, -⟩ := hrd4.form
          subst eu
          have hjw : IntKind.i32.wrap (j : Int) = (j : Int) := by rw [wrap_i32']; omega
          have HLT : Hid (j < css.length) := hlt
          clear hz hrd4 hrd0 hlits hlen hjX hjr hat4 hrw
          generalize css.getD j [] = cj at *
          go_wp2_with fail
          refine HAn.out.mono ?_
          rintro e w4 ⟨rfl, bel4⟩
          have HB4 : Hid (Below wr.heap.size wr w4) := bel4
          clear bel4 HAn kc4
          cases hy : anyK K cj
          · have HE2 := HEnt.out hy w4 HB4.out
            have HE2 : Hid (Calls Tryd.prog 63 #[.pointer (some ⟨b, 0, none⟩), .int .i32 (j : Int), .slice au cj.length cu] w4 fun e w' => e = .returned (.tuple #[]) ∧ ∃ u2, Ov w w' b { sy with P := u2 } n K (ent (reds K css) (j + 1))) := HE2
            clear HEnt hy
            go_wp2_with fail
            refine HE2.out.mono ?_
            rintro e w5 ⟨rfl, u2, hov⟩
            have HF : Hid (Ov w w5 b { sy with P := u2 } n K (ent (reds K css) (j + 1))) := hov
            clear hov HE2
            go_wp2
            go_roundg (gk - 1)
            case measure => have := HJ.out; have := HLT.out; omega
            case rel => exact ⟨j + 1, u2, by have := HJ.out; have := HLT.out; omega, by go_num, HF.out⟩
          · have HF : Hid (Ov w w4 b { sy with P := u } n K (ent (reds K css) (j + 1))) := by rw [← HSk.out hy]; exact HV.out.below HB4.out
            clear HEnt hy
            go_wp2
            go_roundg (gk - 1)
            case measure => have := HJ.out; have := HLT.out; omega
            case rel => exact ⟨j + 1, u, by have := HJ.out; have := HLT.out; omega, by go_num, HF.out⟩
        · have hje : j = css.length := by have := HJ.out; omega
          have HFin : Hid (Ow w wr b { sy with P := u } (2 * (grt css).toNat) css K [] []) := by
            have h5 := HV.out
            rw [hje] at h5
            have e5 : ent (reds K css) css.length = reds K css := by have := ent_all (reds K css); rw [reds_len] at this; exact this
            rw [e5] at h5
            obtain ⟨F, P, hz, hp, hP⟩ := h5.z
            have e6 : 2 * (grt css).toNat = n := by rw [HG.out]; have := HN2.out; omega
            rw [e6]
            refine ⟨h5.bel, ⟨hn, hev, hN, HR.out.2.2.1.len, HLit.out⟩, List.nodup_nil, by simp, F, P, by rw [List.append_nil, ← reds_len K css]; exact hz, hp, ?_⟩
            have h7 := lsum_reds K css
            have h8 := HR.out.2.2.1.sum
            omega
          clear hje
          go_wp2
          go_ret
          exact ⟨b, { sy with P := u }, rfl, HFin.out, HsC.out⟩
end Go.Proofs.YtkinilhapgagcaaDoor
