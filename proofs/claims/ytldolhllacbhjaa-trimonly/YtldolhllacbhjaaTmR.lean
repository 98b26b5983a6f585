/-
  trim: the document's Only.
  KEEP: len below nil form rd mono one more grown lt size cell some none of ofNat add out step row get at drop on app start bx ans own box bel rds
-/
import Derived.Test.YtldolhllacbhjaaTmN
set_option linter.unusedSimpArgs false
set_option linter.unusedVariables false
namespace Go.Proofs.Ytldolhllacbhjaa
open Go Go.RowKit
theorem ris_mem {n : Int} : ∀ {last : Int} {core : List Int}, risF n last core = true → -1 ≤ last → ∀ x ∈ core, 0 ≤ x ∧ x < n
  | _, [], _, _, x, hx => by cases hx
  | last, y :: r, h, hl, x, hx => by
    rw [risF, Bool.and_eq_true, decide_eq_true_eq] at h
    rcases List.mem_cons.1 hx with e | e
    · subst e; omega
    · exact ris_mem h.2 (by omega) x e
theorem ris_len {n : Int} : ∀ {last : Int} {core : List Int}, risF n last core = true → last < n → (core.length : Int) ≤ n - 1 - last
  | _, [], _, hl => by simp; omega
  | last, y :: r, h, hl => by
    rw [risF, Bool.and_eq_true, decide_eq_true_eq] at h
    have := ris_len h.2 h.1.2
    simp
    omega
theorem pik_len (css : List (List Int)) (core : List Int) : (pikF css core).length = core.length := by unfold pikF; simp
theorem pik_mem {css : List (List Int)} {core : List Int} : ∀ z ∈ pikF css core, z ∈ css ∨ z = [] := fun z hz => by
  unfold pikF at hz
  obtain ⟨i, _, rfl⟩ := List.mem_map.1 hz
  rcases Nat.lt_or_ge i.toNat css.length with h | h
  · left; simp [List.getD_eq_getElem?_getD, h]
  · right; simp [List.getD_eq_getElem?_getD, Nat.not_lt.2 h, h]
/-- what Only answers can be read -/
theorem only_rds {v : Int} {css : List (List Int)} {core : List Int} {w W : World} {s s' : Value} {B : Nat} (hr : Rds w s css) (h : OwnF B W s' (onlF v css core).2.1) : Rds W s' (onlF v css core).2.1 := by
  have h1 := hr.len
  refine h.rds ?_ ?_
  · unfold onlF
    split
    · split
      · rename_i hris
        have := ris_len hris (by omega)
        rw [show ((v, pikF css core, (0 : Int)).2.1) = pikF css core from rfl, pik_len]
        omega
      · simp
    · simp
  · unfold onlF
    split
    · split
      · intro z hz
        rcases pik_mem z hz with q | q
        · exact rds_each hr z q
        · rw [q]; simp
      · intro z hz; cases hz
    · intro z hz; cases hz
set_option maxHeartbeats 1600000 in
set_option maxRecDepth 100000 in
theorem rOnly_any (v : Int) (s vc : Value) (css : List (List Int)) (core : List Int) (w : World) (hr : Rds w s css) (hc : Rd w vc core) :
    Calls Try.prog 9 #[.agg #[.int .i64 v, s], vc] w fun e w' => OnS w (onlF v css core) e w' := by
  have HX : Hid (En w v s css ((w.alloc (.cells #[.int .i64 v, s] 24)).alloc (.cells #[.int .i64 0, .slice none 0 0] 24))) := En.new hr
  have HP : Hid (Rd ((w.alloc (.cells #[.int .i64 v, s] 24)).alloc (.cells #[.int .i64 0, .slice none 0 0] 24)) vc core) := (hc.below (below_box _ _)).below (below_box _ _)
  have h8 := hr.len
  obtain ⟨sa, sc, rfl, hsc, hsm, _⟩ := hr.form
  clear hr hc
  cases hf : frm v css
  case false =>
    have HU : Hid (onlF v css core = (0, [], 1)) := by unfold onlF Hid; rw [hf]; rfl
    go_enter Try.func9, Try.ntmps9
    go_wp2_with fail
    generalize (w.alloc (.cells #[.int .i64 v, .slice sa css.length sc] 24)).alloc (.cells #[.int .i64 0, .slice none 0 0] 24) = W0 at *
    refine (rFormed_any v _ css _ HX.out.bx.rd).mono ?_
    rw [hf]
    rintro e w1 ⟨rfl, bel1⟩
    have HX1 : Hid (En w v (.slice sa css.length sc) css w1) := HX.out.on bel1
    have a0 := HX1.out.ans.c0
    have a1 := HX1.out.ans.c1
    have f0 := HX1.out.ans.f0
    have f1 := HX1.out.ans.f1
    clear HX HP bel1
    go_wp2
    try simp only [Exit.inBlock, Exit.then]
    refine bodyPost_ret (ret_form rfl rfl ((HX1.out.ans.set0 _).set1 _)) rfl ?_
    exact ⟨_, by rw [HU.out]; rfl, by rw [HU.out]; exact OwnF.nil _ _, below_set (below_set HX1.out.bx.bel (by omega) _ _) (by omega) _ _⟩
  have HU : Hid (onlF v css core = if risF css.length (-1) core then (v, pikF css core, 0) else (0, [], 2)) := by unfold onlF Hid; rw [hf]; rfl
  obtain ⟨il, hil, hzl0, hzl1, hzl2⟩ := info_parts infoR
  obtain ⟨ac, cc, rfl, hcc, hcm, hcell⟩ := HP.out.form
  go_enter Try.func9, Try.ntmps9
  go_wp2_with fail
  generalize (w.alloc (.cells #[.int .i64 v, .slice sa css.length sc] 24)).alloc (.cells #[.int .i64 0, .slice none 0 0] 24) = W0 at *
  refine (rFormed_any v _ css _ HX.out.bx.rd).mono ?_
  rw [hf]
  rintro e w0 ⟨rfl, bel0⟩
  have HX0 : Hid (En w v (.slice sa css.length sc) css w0) := HX.out.on bel0
  have HP0 : Hid (Rd w0 (.slice ac core.length cc) core) := HP.out.below bel0
  have c0 := HX0.out.bx.c0
  have c1 := HX0.out.bx.c1
  clear HX HP bel0 hcell hf
  go_wp2_with fail
  refine (rising_any _ core _ w0 HP0.out).mono ?_
  cases hris : risF css.length (-1) core
  · have HU2 : Hid (onlF v css core = (0, [], 2)) := by show _ = _; rw [HU.out, hris]; rfl
    rintro e w1 ⟨rfl, bel1⟩
    have HX1 : Hid (En w v (.slice sa css.length sc) css w1) := HX0.out.on bel1
    have a0 := HX1.out.ans.c0
    have a1 := HX1.out.ans.c1
    have f0 := HX1.out.ans.f0
    have f1 := HX1.out.ans.f1
    clear bel1 c0 c1
    go_wp2_with fail
    try simp only [Exit.inBlock, Exit.then]
    refine bodyPost_ret (ret_form rfl rfl ((HX1.out.ans.set0 _).set1 _)) rfl ?_
    exact ⟨_, by rw [HU2.out]; rfl, by rw [HU2.out]; exact OwnF.nil _ _, below_set (below_set HX1.out.bx.bel (by omega) _ _) (by omega) _ _⟩
  have HU2 : Hid (onlF v css core = (v, pikF css core, 0)) := by show _ = _; rw [HU.out, hris]; rfl
  have hbc : core.length ≤ css.length := by have := ris_len hris (by omega); omega
  have HIn : Hid (∀ k, k < core.length → ∃ i : Nat, core.getD k 0 = (i : Int) ∧ i < css.length) := fun k hk => by
    have hm : core.getD k 0 ∈ core := by simp [List.getD_eq_getElem?_getD, hk]
    have := ris_mem hris (Int.le_refl _) _ hm
    exact ⟨(core.getD k 0).toNat, by omega, by omega⟩
  rintro e w1 ⟨rfl, bel1⟩
  have HX1 : Hid (En w v (.slice sa css.length sc) css w1) := HX0.out.on bel1
  have HP1 : Hid (Rd w1 (.slice ac core.length cc) core) := HP0.out.below bel1
  have HS0 : Hid (Bd w1 v (w1.alloc (.cells #[.int .i64 v, .slice none 0 0] 24)) (.slice none 0 0) []) := Bd.start w1 v
  have c0 := HX1.out.bx.c0
  clear HX0 HP0 bel1 hris c1
  go_upto_region 6 with fail
  generalize w1.alloc (.cells #[.int .i64 v, .slice none 0 0] 24) = W5 at *
  obtain ⟨Y, hY⟩ : ∃ Y, w1.heap.size = Y := ⟨_, rfl⟩
  have HY : Hid (w1.heap.size = Y) := hY
  rw [hY]
  clear hY c0
  go_wp2_with fail
  go_loopg [7] core.length (fun g i wr => ∃ (k : Nat) (L : List Cls) (rv : Value), k + g = core.length ∧ i = .int .i64 (k : Int) ∧ Hid (L.map Prod.snd = pikF css (core.take k) ∧ Bd w1 v wr rv L))
  case atStart => exact ⟨0, [], _, by omega, rfl, rfl, HS0.out⟩
  case round =>
    obtain ⟨k, L, rv, hk, rfl, HI⟩ := hrel
    obtain ⟨ra, rc, rfl⟩ := row_form HI.out.2.own.row
    have HK : Hid (k + gk = core.length) := hk
    have HXr : Hid (En w v (.slice sa css.length sc) css wr) := HX1.out.on HI.out.2.bel
    have hbx := HI.out.2.box
    rw [HY.out] at hbx
    have hLc : L.length ≤ css.length := by
      have := congrArg List.length HI.out.1
      unfold pikF at this
      simp at this
      omega
    by_cases hlt : k < core.length
    · obtain ⟨ap', cp', ep, _, _, hcell⟩ := (HP1.out.below HI.out.2.bel).form
      have e3 : ap' = ac ∧ cp' = cc := by injection ep with q1 q2 q3; exact ⟨q1.symm, q3.symm⟩
      obtain ⟨rfl, rfl⟩ := e3
      obtain ⟨b, off, rfl, hck⟩ := hcell k hlt
      have hbb : b < wr.heap.size := World.block_lt_of_cell? wr _ hck
      have HPm : Hid (pikF css (core.take (k + 1)) = pikF css (core.take k) ++ [css.getD (core.getD k 0).toNat []]) := pik_more css core k hlt
      obtain ⟨i, hi, hil2⟩ := HIn.out k hlt
      rw [hi] at hck HPm
      rw [Int.toNat_natCast] at HPm
      clear hk hcell ep hi
      obtain ⟨sa', sc', es, _, _, hrow⟩ := HXr.out.bx.rd.form
      have e4 : sa' = sa ∧ sc' = sc := by injection es with q1 q2 q3; exact ⟨q1.symm, q3.symm⟩
      obtain ⟨rfl, rfl⟩ := e4
      obtain ⟨b2, o2, uu, rfl, hu2, hru⟩ := hrow i hil2
      have hb2 : b2 < wr.heap.size := World.block_lt_of_cell? wr _ hu2
      obtain ⟨au, cu, rfl, _⟩ := hru.form
      generalize css.getD i [] = z at *
      have HCl : Hid (∀ W, Below wr.heap.size wr W → Calls Try.prog 8 #[.slice au z.length cu] W fun e w' => ∃ u, e = .returned u ∧ Own wr.heap.size w' u z ∧ Below wr.heap.size wr w') := fun W h => (copyInts_any _ z W (hru.below h)).mono fun e w' ⟨u, h1, h2, h3⟩ => ⟨u, h1, h2.mono h.size, Below.step h h3⟩
      have HCx : Hid (∀ W, Below wr.heap.size wr W → W.cell? ⟨Y, 1, none⟩ = some (.slice ra L.length rc) ∧ W.cell? ⟨w.heap.size, 1, none⟩ = some (.slice (some ⟨b2, o2, none⟩) css.length sc') ∧ W.cell? ⟨b2, o2 + i, none⟩ = some (.slice au z.length cu) ∧ W.cell? ⟨b, off + k, none⟩ = some (.int .i64 (i : Int))) := fun W h => ⟨(hbx.below h).c1, (HXr.out.on h).bx.c1, (h.cell (p := ⟨b2, o2 + i, none⟩) hb2).trans hu2, (h.cell (p := ⟨b, off + k, none⟩) hbb).trans hck⟩
      have q0 := (HCx.out wr (Below.refl _ _)).1
      have q1 := (HCx.out wr (Below.refl _ _)).2.1
      have hsz := HI.out.2.bel.size
      clear hrow es hru hbx
      go_upto_region 9 with fail
      go_region_held (fun W' => W'.cell? ⟨Y, 1, none⟩ = some (.slice ra L.length rc) ∧ W'.cell? ⟨w.heap.size, 1, none⟩ = some (.slice (some ⟨b2, o2, none⟩) css.length sc') ∧ W'.cell? ⟨b2, o2 + i, none⟩ = some (.slice au z.length cu) ∧ W'.cell? ⟨b, off + k, none⟩ = some (.int .i64 (i : Int))) (first | exact HCx.out _ (Below.refl _ _).drew | exact HCx.out _ H2.out.2) (first | (go_at_call 8; refine (HCl.out _ (Below.refl _ _).drew).mono ?_; rintro e w2 ⟨u2, rfl, own2, bel2⟩; have H2 : Hid (Own wr.heap.size w2 u2 z ∧ Below wr.heap.size wr w2) := ⟨own2, bel2⟩; obtain ⟨a2, c2, hu2'⟩ := own_form own2; subst hu2'; clear own2 bel2))
      have d0 := (HCx.out w2 H2.out.2).1
      have hs2 := H2.out.2.size
      clear q0 q1
      go_wp2_with (at_builtin; refine wpList_append_own _ rfl _ _ 22 rfl w1.heap.size 25 il (.slice none 0 0) 1 24 Try.underlying22 hil hzl0 hzl1 hzl2 rfl (by decide) _ L.length (L.map Prod.fst) rfl (World.ownsRow.alloc (HI.out.2.on H2.out.2).own.row _) _ 1 1 [.slice a2 z.length c2] rfl rfl (cell_one_new _ _ _) (by simp [Value.oneCell']) (by unfold maxLen; omega) (by omega) (by simp; omega) ?_; intro v3 w3 own3 gr3 hn3; obtain ⟨a3, c3, hv3⟩ := row_form own3; subst hv3; have hap := Bd.app HI.out.2 H2.out.2 H2.out.1 own3 gr3; have hb3 := hap.1; rw [HY.out] at hb3; have p0 := hb3.c1; have p1 := hb3.f1; have H3 : Hid (Bd w1 v (w3.setCell ⟨Y, 1, none⟩ (.slice a3 (L.length + 1) c3)) (.slice a3 (L.length + 1) c3) (L ++ [(.slice a2 z.length c2, z)])) := (by have := hap.2; rw [HY.out] at this; exact this); clear own3 gr3 hap hb3 hn3)
      go_roundg (gk - 1)
      case measure => have := HK.out; omega
      case rel => exact ⟨k + 1, _, _, by have := HK.out; omega, by go_num, by rw [List.map_append, HI.out.1, HPm.out]; rfl, H3.out⟩
    · obtain rfl : k = core.length := by omega
      have HF : Hid (L.map Prod.snd = pikF css core) := by have := HI.out.1; rw [List.take_length] at this; exact this
      have hsz1 : w.heap.size + 1 < w1.heap.size := HX1.out.ans.lt
      have a0 := HXr.out.ans.c0
      have a1 := HXr.out.ans.c1
      have f0 := HXr.out.ans.f0
      have f1 := HXr.out.ans.f1
      have o0 := hbx.c0
      have o1 := hbx.c1
      clear hk
      go_wp2_with fail
      try simp only [Exit.inBlock, Exit.then]
      refine bodyPost_ret (ret_form rfl rfl ((HXr.out.ans.set0 _).set1 _)) rfl ?_
      refine ⟨_, by rw [HU2.out]; rfl, ?_, below_set (below_set HXr.out.bx.bel (by omega) _ _) (by omega) _ _⟩
      rw [HU2.out]
      have h0 : OwnF w.heap.size wr (.slice ra L.length rc) (pikF css core) := ⟨L, HI.out.2.own.mono (by omega), HF.out⟩
      exact (h0.set HXr.out.ans (by decide) (by decide) 0 _).set (HXr.out.ans.set0 _) (by decide) (by decide) 1 _
end Go.Proofs.Ytldolhllacbhjaa
