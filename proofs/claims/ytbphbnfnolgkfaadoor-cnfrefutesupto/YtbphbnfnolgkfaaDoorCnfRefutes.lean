/-
  CnfRefutes, walked.
-/
import Derived.Test.YtbphbnfnolgkfaaDoorEntW
import Derived.Test.YtbphbnfnolgkfaaDoorSmall
import Derived.Test.YtbphbnfnolgkfaaDoorConcat
import Derived.Deep.RegionWith
import Derived.Deep.CutRange
set_option linter.unusedSimpArgs false
set_option linter.unusedVariables false
namespace Go.Proofs.YtbphbnfnolgkfaaDoor.cnfRefutes
open Go Go.RowKit

/-- the formula with the clause's opposites beside it -/
def neg1 (zs : List Int) : List (List Int) := zs.map (fun l => [-l])
theorem var_neg {l : Int} (h : fmd l = true) : varOf (-l) = varOf l := by
  have h' := fmd_neg h
  unfold varOf
  rw [h, h']
  have := fmd_range h
  simp only [if_true]
  split <;> split <;> omega
theorem frm_neg {n : Int} {css : List (List Int)} {zs : List Int} (hf : frm n css = true) (hz : fitsP n zs = true) : frm n (css ++ neg1 zs) = true := by
  simp only [frm, Bool.and_eq_true, List.all_append] at hf ⊢
  refine ⟨hf.1, hf.2, ?_⟩
  rw [List.all_eq_true]
  intro c hc
  obtain ⟨l, hl, rfl⟩ := List.mem_map.1 hc
  have := List.all_eq_true.1 hz l hl
  simp only [Bool.and_eq_true, decide_eq_true_eq] at this
  simp only [fitsP, List.all_cons, List.all_nil, Bool.and_true, Bool.and_eq_true, decide_eq_true_eq]
  exact ⟨fmd_neg this.1, by rw [var_neg this.1]; exact this.2⟩
theorem sat_neg {ms : List Bool} {css : List (List Int)} {zs : List Int} (hz : fitsP ms.length zs = true) : satT ms (css ++ neg1 zs) = (satT ms css && !mkT ms zs) := by
  unfold satT
  rw [List.all_append]
  congr 1
  unfold neg1 mkT
  induction zs with
  | nil => rfl
  | cons l zs ih =>
    simp only [fitsP, List.all_cons, Bool.and_eq_true, decide_eq_true_eq] at hz
    rw [List.map_cons, List.all_cons, ih (by simp only [fitsP]; exact hz.2)]
    simp only [List.any_cons, List.any_nil, Bool.or_false, Bool.not_or]
    rw [trv_opp hz.1.1 hz.1.2]
theorem refutes {n : Int} {css : List (List Int)} {zs : List Int} (hf : frm n css = true) (hz : fitsP n zs = true) (hn : ¬ 16 < n) :
    cntE n (css ++ neg1 zs) = 0 ∧ ((modF n (css ++ neg1 zs)).length == 0) = entB n css zs := by
  have h0 : 0 ≤ n := by have := hf; simp only [frm, Bool.and_eq_true, decide_eq_true_eq] at this; exact this.1.1
  have hg := frm_neg hf hz
  refine ⟨by unfold cntE; rw [hg, if_neg hn]; rfl, ?_⟩
  obtain ⟨nn, rfl⟩ : ∃ nn : Nat, n = nn := ⟨n.toNat, by omega⟩
  have hle : decide ((nn : Int) ≤ 16) = true := decide_eq_true (by omega)
  unfold entB modF
  rw [hf, hz, hg, hle]
  simp only [Bool.and_self, Bool.true_and, if_true, Int.toNat_natCast]
  rw [Bool.eq_iff_iff]
  constructor
  · intro h
    rw [List.all_eq_true]
    intro m hm
    obtain ⟨hl, hs⟩ := mem_mods.1 hm
    cases hq : mkT m zs with
    | true => rfl
    | false =>
      exfalso
      have : m ∈ mods nn (css ++ neg1 zs) := mem_mods.2 ⟨hl, by rw [sat_neg (by rw [hl]; exact hz), hs, hq]; rfl⟩
      have h' : mods nn (css ++ neg1 zs) = [] := List.length_eq_zero_iff.1 (by simpa using h)
      rw [h'] at this; cases this
  · intro h
    have : mods nn (css ++ neg1 zs) = [] := by
      apply List.eq_nil_iff_forall_not_mem.2
      intro m hm
      obtain ⟨hl, hs⟩ := mem_mods.1 hm
      rw [sat_neg (by rw [hl]; exact hz)] at hs
      simp only [Bool.and_eq_true] at hs
      have := List.all_eq_true.1 h m (mem_mods.2 ⟨hl, hs.1⟩)
      rw [this] at hs; simp at hs
    rw [this]; rfl
theorem small_one : (modF 2 smallF).length = 1 ∧ cntE 2 smallF = 0 := by decide

set_option maxRecDepth 100000 in
set_option maxHeartbeats 1600000 in
theorem walk0 (n : Int) (s : Value) (css : List (List Int)) (vc : Value) (zs : List Int) (w : World) (hr : Rds w s css) (hz : Rd w vc zs) (hb : css.length ≤ 1048576 ∧ zs.length ≤ 1048576) (ht : Tens w) :
    Calls Tryd.prog 6 #[.agg #[.int .i64 n, s], vc] w fun e w' => e = .returned (.bool true) ∧ Below w.heap.size w w' := by
  have HX : Hid (Bx w n s css (w.alloc (.cells #[.int .i64 n, s] 24))) := Bx.new hr _
  have HZ : Hid (Rd (w.alloc (.cells #[.int .i64 n, s] 24)) vc zs) := hz.below (below_box _ _)
  have HT : Hid (Tens w) := ht
  have H8 : Hid (∀ z ∈ css, z.length * 8 ≤ 140737488351232) := rds_each hr
  obtain ⟨a, c, rfl, hc, hm, _⟩ := hr.form
  obtain ⟨az, cz, rfl, hcz, hmz, _⟩ := hz.form
  have HS1 : Hid ((modF 2 smallF).length = 1 ∧ cntE 2 smallF = 0) := small_one
  clear hr hz ht
  go_enter Tryd.func6, Tryd.ntmps6
  go_wp2_with fail
  refine (small_any _).mono ?_
  rintro e w1 ⟨s1, rfl, r1, bel1⟩
  have HX1 : Hid (Bx w n (.slice a css.length c) css w1) := HX.out.on bel1
  have R1 : Hid (Rds w1 s1 smallF) := r1
  have HZ1 : Hid (Rd w1 (.slice az zs.length cz) zs) := HZ.out.below bel1
  clear HX HZ r1
  go_wp2_with fail
  refine (cnfCount_any 2 s1 smallF w1 R1.out (HT.out.below HX1.out.bel)).mono ?_
  rw [HS1.out.1, HS1.out.2]
  rintro e w2 ⟨rfl, bel2⟩
  have HX2 : Hid (Bx w n (.slice a css.length c) css w2) := HX1.out.on bel2
  have HZ2 : Hid (Rd w2 (.slice az zs.length cz) zs) := HZ1.out.below bel2
  have c0 := HX2.out.c0
  have c1 := HX2.out.c1
  clear HX1 HZ1 R1 bel1 bel2
  by_cases hE : entE n css zs = 0
  case neg =>
    have HE : Hid (entB n css zs = false) := by
      show entB n css zs = false
      unfold entE at hE
      unfold entB
      split at hE
      · rename_i h
        split at hE
        · rename_i h16
          rw [h, decide_eq_false (by omega : ¬ n ≤ 16)]; rfl
        · exact absurd rfl hE
      · rename_i h
        rw [show (frm n css && fitsP n zs) = false by simpa using h]; rfl
    have hne : decide (entE n css zs = 0) = false := decide_eq_false hE
    have hne' : (entE n css zs == 0) = false := by simpa using hE
    go_wp2_with fail
    refine (cnfEntails_any n _ _ css zs w2 HX2.out.rd HZ2.out (HT.out.below HX2.out.bel)).mono ?_
    rw [HE.out]
    rintro e w3 ⟨rfl, bel3⟩
    have HX3 : Hid (Bx w n (.slice a css.length c) css w3) := HX2.out.on bel3
    generalize entE n css zs = D at *
    go_wp2
    go_ret
    exact ⟨rfl, HX3.out.bel⟩
  have HG : Hid (frm n css = true ∧ fitsP n zs = true ∧ ¬ 16 < n) := by
    unfold entE at hE
    split at hE
    · rename_i h
      simp only [Bool.and_eq_true] at h
      split at hE
      · exact absurd hE (by decide)
      · rename_i h16; exact ⟨h.1, h.2, h16⟩
    · exact absurd hE (by decide)
  have HRf : Hid (cntE n (css ++ neg1 zs) = 0 ∧ ((modF n (css ++ neg1 zs)).length == 0) = entB n css zs) := refutes HG.out.1 HG.out.2.1 HG.out.2.2
  go_wp2_with fail
  refine (cnfEntails_any n _ _ css zs w2 HX2.out.rd HZ2.out (HT.out.below HX2.out.bel)).mono ?_
  rw [hE]
  rintro e w3 ⟨rfl, bel3⟩
  have HX3 : Hid (Bx w n (.slice a css.length c) css w3) := HX2.out.on bel3
  have HZ3 : Hid (Rd w3 (.slice az zs.length cz) zs) := HZ2.out.below bel3
  have d0 := HX3.out.c0
  have d1 := HX3.out.c1
  obtain ⟨B, hB⟩ : ∃ B, B = entB n css zs := ⟨_, rfl⟩
  have HBB : Hid (B = entB n css zs) := hB
  rw [← hB]
  clear hB hE c0 c1 HX2 HZ2 bel3
  go_wp2_with fail
  refine (copyFormula_any n _ css w3 HX3.out.rd).mono ?_
  rintro e w4 ⟨u4, rfl, own4, bel4⟩
  obtain ⟨L0, hR0, hL0⟩ := own4
  obtain ⟨au, cu, hu4⟩ := row_form hR0.row
  subst hu4
  have HZ4 : Hid (Rd w4 (.slice az zs.length cz) zs) := HZ3.out.below bel4
  have HX4 : Hid (Bx w n (.slice a css.length c) css w4) := HX3.out.on bel4
  have HR0 : Hid (OwnR w3.heap.size w4 (.slice au L0.length cu) L0) := hR0
  have HL0 : Hid (L0.map Prod.snd = css) := hL0
  have Hl0 : Hid (L0.length = css.length) := by show _ = _; rw [← hL0]; simp
  have hs4 := bel4.size
  clear hR0 hL0 d0 d1
  obtain ⟨il, hil, hzl0, hzl1, hzl2⟩ := info_parts infoR
  have HB0 : Hid (Bx2 (w4.alloc (.cells #[.int .i64 n, .slice au L0.length cu] 24)) w4.heap.size 24 (.int .i64 n) (.slice au L0.length cu)) := Bx2.new _ _ _ _
  go_wp2
  go_loopg [9] zs.length (fun g i wr => ∃ (k : Nat) (L : List Cls) (rv : Value), k + g = zs.length ∧ i = .int .i64 k ∧ Hid (L.length = css.length + k) ∧ Hid (L.map Prod.snd = css ++ neg1 (zs.take k)) ∧ Hid (Bx2 wr w4.heap.size 24 (.int .i64 n) rv) ∧ Hid (OwnR w3.heap.size wr rv L) ∧ Hid (Below w3.heap.size w3 wr) ∧ w4.heap.size < wr.heap.size)
  case atStart => exact ⟨0, L0, _, by omega, rfl, by have := Hl0.out; show _ = _; omega, by unfold Hid; rw [HL0.out]; simp [neg1], HB0.out, HR0.out.below (below_box _ _), (Below.step bel4 (below_box _ _)), by simp⟩
  case round =>
    clear HB0
    obtain ⟨k, L, rv, hk, rfl, HlL, HLs, HBx, HOR, HBl, hsz⟩ := hrel
    have HK : Hid (k + gk = zs.length) := hk
    have hs3 := HBl.out.size
    have hLle : L.length ≤ 2097152 := by have := HlL.out; have := hb.1; have := hb.2; omega
    obtain ⟨ar, cr, hrv⟩ := row_form HOR.out.row
    subst hrv
    have g0 := HBx.out.c0
    have g1 := HBx.out.c1
    have gf1 := HBx.out.f1
    by_cases hlt : k < zs.length
    · obtain ⟨a', c', e', _, _, hcell⟩ := (HZ3.out.below HBl.out).form
      have e3 : a' = az ∧ c' = cz := by injection e' with q1 q2 q3; exact ⟨q1.symm, q3.symm⟩
      obtain ⟨rfl, rfl⟩ := e3
      obtain ⟨b, off, rfl, hck⟩ := hcell k hlt
      obtain ⟨hzf, hzv⟩ := fits_at HG.out.2.1 hlt
      have hzr := fmd_range hzf
      have HS : Hid (neg1 (zs.take (k + 1)) = neg1 (zs.take k) ++ [[-(zs.getD k 0)]]) := by show _ = _; unfold neg1; rw [take_succ_getD zs 0 k hlt]; simp
      have hk0 : (0 : Int) ≤ k := by omega
      have hk1 : (k : Int) < zs.length := by omega
      clear hk hcell e' hzf hzv
      generalize zs.getD k 0 = z at *
      have hwr : IntKind.i64.wrap (-z) = -z := by rw [IntKind.wrap_i64]; omega
      have HR2 : Hid (((wr.drew.alloc (.cells #[.int .i64 (-z)] 3)).alloc (.cells #[.slice (some ⟨wr.heap.size, 0, none⟩) 1 1] 31)).ownsRow w3.heap.size 31 1 (.slice ar L.length cr) L.length (L.map Prod.fst)) := World.ownsRow.alloc (World.ownsRow.alloc HOR.out.row.drew _) _
      have HU1 : Hid (Own wr.heap.size (wr.drew.alloc (.cells #[.int .i64 (-z)] 3)) (.slice (some ⟨wr.heap.size, 0, none⟩) 1 1) [-z]) := ownOne wr.drew (-z)
      have HB1 : Hid (Below wr.heap.size wr (wr.drew.alloc (.cells #[.int .i64 (-z)] 3))) := Below.step (Below.refl _ _).drew (below_box _ _)
      have HFin : Hid (∀ (a7 : Option Addr) (c7 : Nat) (w7 : World), w7.ownsRow w3.heap.size 31 1 (.slice a7 (L.length + 1) c7) (L.length + 1) (L.map Prod.fst ++ [.slice (some ⟨wr.heap.size, 0, none⟩) 1 1]) → ((wr.drew.alloc (.cells #[.int .i64 (-z)] 3)).alloc (.cells #[.slice (some ⟨wr.heap.size, 0, none⟩) 1 1] 31)).grownBy w7 (Value.ownBlock (.slice ar L.length cr)) →
          Bx2 w7 w4.heap.size 24 (.int .i64 n) (.slice ar L.length cr) ∧ OwnR w3.heap.size w7 (.slice a7 (L.length + 1) c7) (L ++ [(.slice (some ⟨wr.heap.size, 0, none⟩) 1 1, [-z])]) ∧ Below w3.heap.size w3 w7 ∧ w4.heap.size < w7.heap.size) := fun a7 c7 w7 own7 gr7 => by
        have R1 := HOR.out.below HB1.out
        have bxa := HBx.out.below (Below.step HB1.out (below_box _ (.cells #[.slice (some ⟨wr.heap.size, 0, none⟩) 1 1] 31)))
        have hsa : wr.heap.size + 1 + 1 ≤ w7.heap.size := by have := gr7.size; simpa using this
        refine ⟨bxa.kept gr7 (bxa.not_row (by decide) HR2.out), R1.app (World.grownBy_alloc _ _ none) own7 gr7 (HU1.out.mono hs3) (ApartC.snoc HOR.out.ap HOR.out.own HU1.out (Nat.le_refl _)), ?_, by omega⟩
        exact (HBl.out.trans ((Below.step HB1.out (below_box _ _)).mono hs3)).grown gr7 (by simp; omega) (fun q hq => (HOR.out.row.lt q hq).1)
      go_wp2_with fail
      go_region_law (first
        | (refine step_append_own rfl (.tmp 40) (.tmp 47) 22 rfl w3.heap.size 31 il (.slice none 0 0) 1 24 Tryd.underlying22 hil hzl0 hzl1 hzl2 rfl (by decide) (.slice ar L.length cr) L.length (L.map Prod.fst) (by simp [Act.eval, Act.put]) HR2.out ⟨wr.heap.size + 1, 0, none⟩ 1 1 [.slice (some ⟨wr.heap.size, 0, none⟩) 1 1] (by simp [Act.eval, Act.put]) rfl (by intro j u hj; match j, hj with | 0, hj => simp at hj; subst hj; simp [Addr.add]) (by simp [Value.oneCell']) (by unfold maxLen; omega) (by omega) (by simp; omega) ?_; intro v7 w7 own7 gr7; obtain ⟨a7, c7, hv7⟩ := row_form own7; subst hv7; have A7 := HFin.out a7 c7 w7 own7 gr7; have q0 := A7.1.c1; have q1 := A7.1.f1; have q2 := A7.1.c0; have F7 : Hid (Bx2 w7 w4.heap.size 24 (.int .i64 n) (.slice ar L.length cr) ∧ OwnR w3.heap.size w7 (.slice a7 (L.length + 1) c7) (L ++ [(.slice (some ⟨wr.heap.size, 0, none⟩) 1 1, [-z])]) ∧ Below w3.heap.size w3 w7 ∧ w4.heap.size < w7.heap.size) := A7; clear A7 own7 gr7))
      all_goals
        go_wp2
        go_roundg (gk - 1)
        case measure => have := HK.out; omega
        case rel =>
          have r1 : OwnR w3.heap.size (w7.setCell ⟨w4.heap.size, 1, none⟩ (.slice a7 (L.length + 1) c7)) (.slice a7 (L.length + 1) c7) (L ++ [(.slice (some ⟨wr.heap.size, 0, none⟩) 1 1, [-z])]) := F7.out.2.1.set F7.out.1 (by decide) (by decide) 1 (.slice a7 (L.length + 1) c7)
          have r2 : (L ++ [((Value.slice (some ⟨wr.heap.size, 0, none⟩) 1 1, [-z]) : Cls)]).map Prod.snd = css ++ neg1 (zs.take (k + 1)) := by rw [HS.out, List.map_append, HLs.out, List.append_assoc]; rfl
          have r3 : (L ++ [((Value.slice (some ⟨wr.heap.size, 0, none⟩) 1 1, [-z]) : Cls)]).length = css.length + (k + 1) := by have := HlL.out; simp; omega
          exact ⟨k + 1, L ++ [((Value.slice (some ⟨wr.heap.size, 0, none⟩) 1 1, [-z]) : Cls)], .slice a7 (L.length + 1) c7, by have := HK.out; omega, by go_num, r3, r2, F7.out.1.set1 _, r1, below_set F7.out.2.2.1 (by omega) _ _, by rw [World.size_setCell]; exact F7.out.2.2.2⟩
    · obtain rfl : k = zs.length := by omega
      have HE : Hid (L.map Prod.snd = css ++ neg1 zs) := by have := HLs.out; rw [List.take_length] at this; exact this
      have HT4 : Hid (Tens wr) := HT.out.below ((HX3.out.on HBl.out).bel)
      have HRd : Hid (Rds wr (.slice ar L.length cr) (css ++ neg1 zs)) := by
        show Rds _ _ _
        rw [← HE.out]
        refine HOR.out.rds (by omega) (fun x hx => ?_)
        have hm : x.2 ∈ css ++ neg1 zs := by rw [← HE.out]; exact List.mem_map.2 ⟨x, hx, rfl⟩
        rcases List.mem_append.1 hm with h | h
        · exact H8.out _ h
        · obtain ⟨l, _, e⟩ := List.mem_map.1 h
          rw [← e]; simp
      have HC : Hid (Calls Tryd.prog 13 #[.agg #[.int .i64 n, .slice ar L.length cr]] wr fun e w' => e = .returned (.tuple #[.int .i64 (modF n (css ++ neg1 zs)).length, .int .i64 0]) ∧ Below wr.heap.size wr w') := by
        have := cnfCount_any n _ _ wr HRd.out HT4.out
        rwa [HRf.out.1] at this
      have HBW : Hid (Below w.heap.size w wr) := (HX3.out.on HBl.out).bel
      have HRR : Hid (((modF n (css ++ neg1 zs)).length == 0) = B) := by show _ = _; rw [HBB.out]; exact HRf.out.2
      clear hk
      generalize (modF n (css ++ neg1 zs)).length = M at *
      go_wp2_with fail
      refine HC.out.mono ?_
      rintro e w8 ⟨rfl, bel8⟩
      have hMB : (M == 0) = B := HRR.out
      cases B
      · have hM : ((M : Int) == 0) = false := by
          have h : ¬ M = 0 := by simpa using hMB
          simp; exact h
        go_wp2
        go_ret
        exact ⟨rfl, HBW.out.trans (bel8.mono HBW.out.size)⟩
      · obtain rfl : M = 0 := by simpa using hMB
        go_wp2
        go_ret
        exact ⟨rfl, HBW.out.trans (bel8.mono HBW.out.size)⟩

theorem walk (n : Int) (s : Value) (css : List (List Int)) (vc : Value) (zs : List Int) (w : World) (_ : (Lit.int .i64 n).wf = true) (hr : Rds w s css) (hz : Rd w vc zs) (hb : css.length + (css.map List.length).sum ≤ 1048576) (hb2 : zs.length ≤ 1048576) (ht : Tens w) :
    Calls Tryd.prog 6 #[.agg #[.int .i64 n, s], vc] w fun e w' => e = .returned (.bool true) ∧ Below w.heap.size w w' :=
  walk0 n s css vc zs w hr hz ⟨by omega, hb2⟩ ht

end Go.Proofs.YtbphbnfnolgkfaaDoor.cnfRefutes
