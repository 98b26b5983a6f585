/-
  unit: begin.
  KEEP: set on app at below new trans refl start ap kept rd rds mono lt add none own nil put len pos setF setV putL putR other neV same_any
-/
import Derived.Test.YtkinilhapgagcaaDoorUnE
set_option linter.unusedSimpArgs false
set_option linter.unusedVariables false
namespace Go.Proofs.YtkinilhapgagcaaDoor
open Go Go.RowKit

/-- the first j clauses of a formula -/
def ent (css : List (List Int)) (j : Nat) : List (List Int) := css.take j ++ List.replicate (css.length - j) []
theorem ent_zero (css : List (List Int)) : ent css 0 = List.replicate css.length [] := by simp [ent]
theorem ent_all (css : List (List Int)) : ent css css.length = css := by simp [ent]
theorem ent_len {css : List (List Int)} {j : Nat} (h : j ≤ css.length) : (ent css j).length = css.length := by simp [ent]; omega
theorem ent_gt {css : List (List Int)} {j k : Nat} (h : j < k) : (ent css j).getD k [] = [] := by
  unfold ent
  rw [List.getD_eq_getElem?_getD, List.getElem?_append_right (by rw [List.length_take]; omega), List.getElem?_replicate]
  split <;> rfl
theorem ent_at {css : List (List Int)} {j : Nat} (h : j < css.length) : (ent css j).getD j [] = [] := by
  unfold ent
  rw [List.getD_eq_getElem?_getD, List.getElem?_append_right (by rw [List.length_take]; omega), List.getElem?_replicate]
  split <;> rfl
theorem ent_set {css : List (List Int)} {j : Nat} (h : j < css.length) : (ent css j).set j (css.getD j []) = ent css (j + 1) := by
  apply List.ext_getElem?
  intro i
  by_cases e : j = i
  · subst e
    rw [List.getElem?_set_self (by rw [ent_len (by omega)]; exact h)]
    unfold ent
    rw [List.getElem?_append_left (by rw [List.length_take]; omega), List.getElem?_take_of_lt (by omega), List.getElem?_eq_getElem h, List.getD_eq_getElem?_getD, List.getElem?_eq_getElem h]; rfl
  · rw [List.getElem?_set_ne e]
    unfold ent
    by_cases hi : i < j
    · rw [List.getElem?_append_left (by rw [List.length_take]; omega), List.getElem?_append_left (by rw [List.length_take]; omega), List.getElem?_take_of_lt hi, List.getElem?_take_of_lt (by omega)]
    · rw [List.getElem?_append_right (by rw [List.length_take]; omega), List.getElem?_append_right (by rw [List.length_take]; omega), List.getElem?_replicate, List.getElem?_replicate, List.length_take, List.length_take]
      by_cases h3 : i < css.length
      · rw [if_pos (by omega), if_pos (by omega)]
      · rw [if_neg (by omega), if_neg (by omega)]
theorem lsum_append (a b : List (List Int)) : lsum (a ++ b) = lsum a + lsum b := by simp [lsum]
theorem ent_sum {css : List (List Int)} {j : Nat} (h : j < css.length) : lsum (ent css j) + (css.getD j []).length ≤ lsum css := by
  have h1 : lsum (ent css j) = lsum (css.take j) := by
    unfold ent; rw [lsum_append]
    have : lsum (List.replicate (css.length - j) []) = 0 := by simp [lsum]
    omega
  have h2 : lsum css = lsum (css.take j) + lsum (css.drop j) := by rw [← lsum_append, List.take_append_drop]
  have h3 : css.drop j = css.getD j [] :: css.drop (j + 1) := by
    rw [List.drop_eq_getElem_cons h, List.getD_eq_getElem?_getD, List.getElem?_eq_getElem h]; rfl
  have h4 : lsum (css.drop j) = (css.getD j []).length + lsum (css.drop (j + 1)) := by rw [h3]; simp [lsum]
  omega
theorem idx_lt2 {l : Int} (h : fmd l = true) : idx l < 2 * varOf l := by
  have hr := fmd_range h
  rcases (show 0 < l ∨ l < 0 by omega) with a | a
  · rw [(there_pos h a).1, (there_pos h a).2]; omega
  · rw [(there_neg h a).1, (there_neg h a).2]; omega
set_option maxRecDepth 100000 in
set_option maxHeartbeats 8000000 in
theorem uBegin_any (v : Int) (s : Value) (css : List (List Int)) (w : World) (hr : Rds w s css) (hN : css.length ≤ 1073741824) (hL : ∀ c ∈ css, c.length ≤ 1073741824) (hsz : szs css = (lsum css : Int)) (hs31 : lsum css ≤ 2147483647) (hf : ∀ c ∈ css, ∀ l ∈ c, fmd l = true) :
    Calls Tryd.prog 53 #[.agg #[.int .i64 v, s]] w fun e w' => ∃ b sz Q, e = .returned (.pointer (some ⟨b, 0, none⟩)) ∧ Cw w w' b sz (2 * (grt css).toNat) css [] Q [] ∧ sz.C = s ∧ Inv css [] Q := by
  have HR : Hid (Rds w s css) := hr
  obtain ⟨a, c, es, h1, h2, -⟩ := hr.form
  have hg := grt_range css
  obtain ⟨G, hG⟩ : ∃ G : Nat, grt css = (G : Int) := ⟨(grt css).toNat, by omega⟩
  have hGb : G ≤ 1048576 := by omega
  have HG : Hid (grt css = (G : Int)) := hG
  have HLs : Hid (∀ c ∈ css, c.length ≤ 1073741824) := hL
  have HSz : Hid (szs css = (lsum css : Int) ∧ lsum css ≤ 2147483647) := ⟨hsz, hs31⟩
  have HES : Hid (s = .slice a css.length c) := es
  clear hr hg hG hL hsz hs31 es
  go_enter Tryd.func53, Tryd.ntmps53
  go_wp2_with fail
  refine (uGreatest_any v s css _ (HR.out.below (below_box _ _)) hN HLs.out).mono ?_
  rintro e w1 ⟨rfl, bel1⟩
  rw [HG.out]
  have HB1 : Hid (Below w.heap.size w w1) := Below.step (below_box _ _) bel1
  have k0 : w1.cell? ⟨w.heap.size, 0, none⟩ = some (.int .i64 v) := (bel1.cell (p := ⟨w.heap.size, 0, none⟩) (by rw [World.size_alloc]; exact Nat.lt_succ_self _)).trans (box0 w _ _ _)
  have k1 : w1.cell? ⟨w.heap.size, 1, none⟩ = some s := (bel1.cell (p := ⟨w.heap.size, 1, none⟩) (by rw [World.size_alloc]; exact Nat.lt_succ_self _)).trans (box1 w _ _ _)
  have HR1 : Hid (Rds w1 s css) := HR.out.below HB1.out
  clear bel1
  obtain ⟨n, hn2⟩ : ∃ n : Nat, 2 * (G : Int) = (n : Int) := ⟨2 * G, by omega⟩
  have hn : n ≤ 2097152 := by omega
  have HN2 : Hid (n = 2 * G) := by show _ = _; omega
  have HRd : Hid (∀ W, Below w1.heap.size w1 W → Rds W s css) := fun W hW => HR1.out.below hW
  have HFitN : Hid (n ≤ 2097152 ∧ n % 2 = 0) := ⟨hn, by omega⟩
  have hGw : IntKind.i64.wrap (2 * (G : Int)) = (n : Int) := by rw [IntKind.wrap_i64]; omega
  go_upto_region 2 with fail
  go_cut [4] from 10 to 29 (fun p wx => ∃ b sz, p = .pointer (some ⟨b, 0, none⟩) ∧ Ce w wx b sz n (List.replicate css.length []) (fun _ => false) ∧ sz.C = s ∧ Below w1.heap.size w1 wx)
  case first =>
    have HCut : Hid (∀ (L : Nat → Bool) (W : World) (x4 x10 x11 x12 x13 x14 x15 x16 x17 x18 x19 x20 x21 x22 x23 x24 x25 x26 x27 x28 x29 : Value), (∀ j, j < 21 → L j = true) → Bg w w1 v s css.length (lsum css) n w.heap.size L W x4 x10 x11 x12 x13 x14 x15 x16 x17 x18 x19 x20 x21 x22 x23 x24 x25 x26 x27 x28 x29 → ∃ b sz, x4 = .pointer (some ⟨b, 0, none⟩) ∧ Ce w W b sz n (List.replicate css.length []) (fun _ => false) ∧ sz.C = s ∧ Below w1.heap.size w1 W) := fun L W x4 x10 x11 x12 x13 x14 x15 x16 x17 x18 x19 x20 x21 x22 x23 x24 x25 x26 x27 x28 x29 hall hB => by { obtain ⟨b, sz, h1, h2, h3⟩ := hB.fin hall HB1.out hN HFitN.out.1 HFitN.out.2 (by have := HSz.out.2; unfold maxLen; omega); exact ⟨b, sz, h1, h2, h3, hB.bel⟩ }
    have hmkI := run_make_row' (P := Tryd.prog) 50 4 (.bool false) 1 Tryd.underlying50 infoB6 rfl .i64 .i64 n (by omega) (by omega)
    have hmkE := run_make_row' (P := Tryd.prog) 75 21 (.int .i32 0) 4 Tryd.underlying75 infoI6 rfl .i64 .i64 css.length (by omega) (by omega)
    have hmkF := run_make_row' (P := Tryd.prog) 75 21 (.int .i32 0) 4 Tryd.underlying75 infoI6 rfl .i64 .i64 n (by omega) (by omega)
    have hmkP := made_place (lsum css) (by have := HSz.out.2; omega)
    have hszl : lsum css ≤ 2147483647 := HSz.out.2
    have hwsz : IntKind.i64.wrap ((lsum css : Int) + 1) = (lsum css : Int) + 1 := by rw [IntKind.wrap_i64]; omega
    refine wp_region_any (by kernel_rfl) ?_
    refine any_inv (BgI w w1 v s css.length (lsum css) n w.heap.size (.agg #[.int .i64 v, s]) (.int .i64 (G : Int)) (.int .i64 (n : Int))) (back_of (by kernel_rfl)) ?_ ?_ _ _ _ _ rfl (by decide) ⟨rfl, fun _ => false, fun j hj => by simp [Array.getD, hj], undef, undef, undef, undef, undef, undef, undef, undef, undef, undef, undef, undef, undef, undef, undef, undef, undef, undef, undef, undef, undef, rfl, ⟨(Below.refl _ _).drew, fun h => Bool.noConfusion h, fun h => Bool.noConfusion h, fun h => Bool.noConfusion h, fun h => Bool.noConfusion h, fun h => Bool.noConfusion h, fun h => Bool.noConfusion h, fun h => Bool.noConfusion h, fun h => Bool.noConfusion h, fun h => Bool.noConfusion h, fun h => Bool.noConfusion h, fun h => Bool.noConfusion h, fun h => Bool.noConfusion h, fun h => Bool.noConfusion h, fun h => Bool.noConfusion h, fun h => Bool.noConfusion h, fun h => Bool.noConfusion h, fun h => Bool.noConfusion h, fun h => Bool.noConfusion h, fun h => Bool.noConfusion h, fun h => Bool.noConfusion h, fun h => Bool.noConfusion h, fun h _ => Bool.noConfusion h, fun h => Bool.noConfusion h, fun h => Bool.noConfusion h, fun h => Bool.noConfusion h⟩⟩
    · intro listed a W i o hI ho hl hdep K hK
      obtain ⟨hsz, L, hlk, x4, x10, x11, x12, x13, x14, x15, x16, x17, x18, x19, x20, x21, x22, x23, x24, x25, x26, x27, x28, x29, rfl, hB⟩ := hI
      have hw : w.heap.size ≤ W.heap.size := Nat.le_trans HB1.out.size hB.bel.size
      have c0 : W.cell? ⟨w.heap.size, 0, none⟩ = some (.int .i64 v) := (hB.bel.cell (p := ⟨w.heap.size, 0, none⟩) (World.block_lt_of_cell? w1 _ k0)).trans k0
      have c1 : W.cell? ⟨w.heap.size, 1, none⟩ = some s := (hB.bel.cell (p := ⟨w.heap.size, 1, none⟩) (World.block_lt_of_cell? w1 _ k1)).trans k1
      have hi : i < 21 := (Array.getElem?_eq_some_iff.1 ho).1
      rcases (show i = 0 ∨ i = 1 ∨ i = 2 ∨ i = 3 ∨ i = 4 ∨ i = 5 ∨ i = 6 ∨ i = 7 ∨ i = 8 ∨ i = 9 ∨ i = 10 ∨ i = 11 ∨ i = 12 ∨ i = 13 ∨ i = 14 ∨ i = 15 ∨ i = 16 ∨ i = 17 ∨ i = 18 ∨ i = 19 ∨ i = 20 by omega) with rfl | rfl | rfl | rfl | rfl | rfl | rfl | rfl | rfl | rfl | rfl | rfl | rfl | rfl | rfl | rfl | rfl | rfl | rfl | rfl | rfl
      · obtain rfl := (Option.some.inj ho)
        have hno : L 0 = false := (hlk 0 (by decide)).symm.trans (getD_ft hsz (by decide) hl)
        obtain ⟨hs2, hl2⟩ := lnk hsz hlk (i := 0) (by decide)
        refine wpOp_step rfl fun K' hK' => ?_
        go_simp
        exact hK' _ _ (hK _ _ ⟨hs2, _, hl2, _, _, _, _, _, _, _, _, _, _, _, _, _, _, _, _, _, _, _, _, _, rfl, hB.s0 ⟩)
      · obtain rfl := (Option.some.inj ho)
        have hno : L 1 = false := (hlk 1 (by decide)).symm.trans (getD_ft hsz (by decide) hl)
        obtain ⟨hs2, hl2⟩ := lnk hsz hlk (i := 1) (by decide)
        have d0 : L 0 = true := (hlk 0 (by decide)).symm.trans (hdep ⟨0, .data⟩ (by simp) rfl)
        have ef0 := hB.f0 d0
        obtain ⟨q18, q19⟩ := hB.q18 (by simp [show L 1 = false from hno])
        subst ef0
        refine wpOp_step rfl fun K' hK' => ?_
        go_simp
        exact hK' _ _ (hK _ _ ⟨hs2, _, hl2, _, _, _, _, _, _, _, _, _, _, _, _, _, _, _, _, _, _, _, _, _, rfl, hB.s1 q18 q19⟩)
      · obtain rfl := (Option.some.inj ho)
        have hno : L 2 = false := (hlk 2 (by decide)).symm.trans (getD_ft hsz (by decide) hl)
        obtain ⟨hs2, hl2⟩ := lnk hsz hlk (i := 2) (by decide)
        refine wpOp_step rfl fun K' hK' => ?_
        go_simp
        exact hK' _ _ (hK _ _ ⟨hs2, _, hl2, _, _, _, _, _, _, _, _, _, _, _, _, _, _, _, _, _, _, _, _, _, rfl, hB.s2 ⟩)
      · obtain rfl := (Option.some.inj ho)
        have hno : L 3 = false := (hlk 3 (by decide)).symm.trans (getD_ft hsz (by decide) hl)
        obtain ⟨hs2, hl2⟩ := lnk hsz hlk (i := 3) (by decide)
        have d2 : L 2 = true := (hlk 2 (by decide)).symm.trans (hdep ⟨2, .data⟩ (by simp) rfl)
        have ef2 := hB.f2 d2
        obtain ⟨q18, q19⟩ := hB.q18 (by simp [show L 3 = false from hno])
        subst ef2
        refine wpOp_step rfl fun K' hK' => ?_
        go_simp
        exact hK' _ _ (hK _ _ ⟨hs2, _, hl2, _, _, _, _, _, _, _, _, _, _, _, _, _, _, _, _, _, _, _, _, _, rfl, hB.s3 q18 q19 hw⟩)
      · obtain rfl := (Option.some.inj ho)
        have hno : L 4 = false := (hlk 4 (by decide)).symm.trans (getD_ft hsz (by decide) hl)
        obtain ⟨hs2, hl2⟩ := lnk hsz hlk (i := 4) (by decide)
        refine wpOp_step rfl fun K' hK' => ?_
        go_simp
        exact hK' _ _ (hK _ _ ⟨hs2, _, hl2, _, _, _, _, _, _, _, _, _, _, _, _, _, _, _, _, _, _, _, _, _, rfl, hB.s4 ⟩)
      · obtain rfl := (Option.some.inj ho)
        have hno : L 5 = false := (hlk 5 (by decide)).symm.trans (getD_ft hsz (by decide) hl)
        obtain ⟨hs2, hl2⟩ := lnk hsz hlk (i := 5) (by decide)
        have d4 : L 4 = true := (hlk 4 (by decide)).symm.trans (hdep ⟨4, .data⟩ (by simp) rfl)
        have ef4 := hB.f4 d4
        subst ef4
        refine wpOp_step rfl fun K' hK' => ?_
        go_simp
        exact hK' _ _ (hK _ _ ⟨hs2, _, hl2, _, _, _, _, _, _, _, _, _, _, _, _, _, _, _, _, _, _, _, _, _, rfl, hB.s5 ⟩)
      · obtain rfl := (Option.some.inj ho)
        have hno : L 6 = false := (hlk 6 (by decide)).symm.trans (getD_ft hsz (by decide) hl)
        obtain ⟨hs2, hl2⟩ := lnk hsz hlk (i := 6) (by decide)
        have d5 : L 5 = true := (hlk 5 (by decide)).symm.trans (hdep ⟨5, .data⟩ (by simp) rfl)
        have ef5 := hB.f5 d5
        subst ef5
        refine wpOp_step rfl fun K' hK' => ?_
        have hsl := HES.out
        subst hsl
        go_simp
        exact hK' _ _ (hK _ _ ⟨hs2, _, hl2, _, _, _, _, _, _, _, _, _, _, _, _, _, _, _, _, _, _, _, _, _, rfl, hB.s6 ⟩)
      · obtain rfl := (Option.some.inj ho)
        have hno : L 7 = false := (hlk 7 (by decide)).symm.trans (getD_ft hsz (by decide) hl)
        obtain ⟨hs2, hl2⟩ := lnk hsz hlk (i := 7) (by decide)
        have d6 : L 6 = true := (hlk 6 (by decide)).symm.trans (hdep ⟨6, .data⟩ (by simp) rfl)
        have ef6 := hB.f6 d6
        obtain ⟨q18, q19⟩ := hB.q18 (by simp [show L 7 = false from hno])
        subst ef6
        refine wpOp_step rfl fun K' hK' => ?_
        go_simp
        exact hK' _ _ (hK _ _ ⟨hs2, _, hl2, _, _, _, _, _, _, _, _, _, _, _, _, _, _, _, _, _, _, _, _, _, rfl, hB.s7 q18 q19 hw⟩)
      · obtain rfl := (Option.some.inj ho)
        have hno : L 8 = false := (hlk 8 (by decide)).symm.trans (getD_ft hsz (by decide) hl)
        obtain ⟨hs2, hl2⟩ := lnk hsz hlk (i := 8) (by decide)
        refine wpOp_step rfl fun K' hK' => ?_
        go_simp
        exact hK' _ _ (hK _ _ ⟨hs2, _, hl2, _, _, _, _, _, _, _, _, _, _, _, _, _, _, _, _, _, _, _, _, _, rfl, hB.s8 ⟩)
      · obtain rfl := (Option.some.inj ho)
        have hno : L 9 = false := (hlk 9 (by decide)).symm.trans (getD_ft hsz (by decide) hl)
        obtain ⟨hs2, hl2⟩ := lnk hsz hlk (i := 9) (by decide)
        have d8 : L 8 = true := (hlk 8 (by decide)).symm.trans (hdep ⟨8, .data⟩ (by simp) rfl)
        have ef8 := hB.f8 d8
        obtain ⟨q18, q19⟩ := hB.q18 (by simp [show L 9 = false from hno])
        subst ef8
        refine wpOp_step rfl fun K' hK' => ?_
        go_simp
        exact hK' _ _ (hK _ _ ⟨hs2, _, hl2, _, _, _, _, _, _, _, _, _, _, _, _, _, _, _, _, _, _, _, _, _, rfl, hB.s9 q18 q19 hw⟩)
      · obtain rfl := (Option.some.inj ho)
        have hno : L 10 = false := (hlk 10 (by decide)).symm.trans (getD_ft hsz (by decide) hl)
        obtain ⟨hs2, hl2⟩ := lnk hsz hlk (i := 10) (by decide)
        refine wpOp_step rfl fun K' hK' => ?_
        go_simp
        exact hK' _ _ (hK _ _ ⟨hs2, _, hl2, _, _, _, _, _, _, _, _, _, _, _, _, _, _, _, _, _, _, _, _, _, rfl, hB.s10 ⟩)
      · obtain rfl := (Option.some.inj ho)
        have hno : L 11 = false := (hlk 11 (by decide)).symm.trans (getD_ft hsz (by decide) hl)
        obtain ⟨hs2, hl2⟩ := lnk hsz hlk (i := 11) (by decide)
        have d10 : L 10 = true := (hlk 10 (by decide)).symm.trans (hdep ⟨10, .data⟩ (by simp) rfl)
        have ef10 := hB.f10 d10
        subst ef10
        refine wpOp_step rfl fun K' hK' => ?_
        go_simp
        go_at_call 73
        refine (cnfSize_any v s css W (HRd.out W hB.bel)).mono ?_
        rintro e W2 ⟨rfl, bel2⟩
        rw [HSz.out.1]
        exact hK' _ _ (hK _ _ ⟨hs2, _, hl2, _, _, _, _, _, _, _, _, _, _, _, _, _, _, _, _, _, _, _, _, _, rfl, hB.s11 bel2⟩)
      · obtain rfl := (Option.some.inj ho)
        have hno : L 12 = false := (hlk 12 (by decide)).symm.trans (getD_ft hsz (by decide) hl)
        obtain ⟨hs2, hl2⟩ := lnk hsz hlk (i := 12) (by decide)
        have d11 : L 11 = true := (hlk 11 (by decide)).symm.trans (hdep ⟨11, .data⟩ (by simp) rfl)
        have ef11 := hB.f11 d11
        subst ef11
        refine wpOp_step rfl fun K' hK' => ?_
        go_simp
        exact hK' _ _ (hK _ _ ⟨hs2, _, hl2, _, _, _, _, _, _, _, _, _, _, _, _, _, _, _, _, _, _, _, _, _, rfl, hB.s12 ⟩)
      · obtain rfl := (Option.some.inj ho)
        have hno : L 13 = false := (hlk 13 (by decide)).symm.trans (getD_ft hsz (by decide) hl)
        obtain ⟨hs2, hl2⟩ := lnk hsz hlk (i := 13) (by decide)
        have d12 : L 12 = true := (hlk 12 (by decide)).symm.trans (hdep ⟨12, .data⟩ (by simp) rfl)
        have ef12 := hB.f12 d12
        obtain ⟨q18, q19⟩ := hB.q18 (by simp [show L 13 = false from hno])
        subst ef12
        refine wpOp_step rfl fun K' hK' => ?_
        go_simp
        exact hK' _ _ (hK _ _ ⟨hs2, _, hl2, _, _, _, _, _, _, _, _, _, _, _, _, _, _, _, _, _, _, _, _, _, rfl, hB.s13 q18 q19 hw⟩)
      · obtain rfl := (Option.some.inj ho)
        have hno : L 14 = false := (hlk 14 (by decide)).symm.trans (getD_ft hsz (by decide) hl)
        obtain ⟨hs2, hl2⟩ := lnk hsz hlk (i := 14) (by decide)
        refine wpOp_step rfl fun K' hK' => ?_
        go_simp
        exact hK' _ _ (hK _ _ ⟨hs2, _, hl2, _, _, _, _, _, _, _, _, _, _, _, _, _, _, _, _, _, _, _, _, _, rfl, hB.s14 ⟩)
      · obtain rfl := (Option.some.inj ho)
        have hno : L 15 = false := (hlk 15 (by decide)).symm.trans (getD_ft hsz (by decide) hl)
        obtain ⟨hs2, hl2⟩ := lnk hsz hlk (i := 15) (by decide)
        have d14 : L 14 = true := (hlk 14 (by decide)).symm.trans (hdep ⟨14, .data⟩ (by simp) rfl)
        have ef14 := hB.f14 d14
        subst ef14
        refine wpOp_step rfl fun K' hK' => ?_
        go_simp
        exact hK' _ _ (hK _ _ ⟨hs2, _, hl2, _, _, _, _, _, _, _, _, _, _, _, _, _, _, _, _, _, _, _, _, _, rfl, hB.s15 ⟩)
      · obtain rfl := (Option.some.inj ho)
        have hno : L 16 = false := (hlk 16 (by decide)).symm.trans (getD_ft hsz (by decide) hl)
        obtain ⟨hs2, hl2⟩ := lnk hsz hlk (i := 16) (by decide)
        have d15 : L 15 = true := (hlk 15 (by decide)).symm.trans (hdep ⟨15, .data⟩ (by simp) rfl)
        have ef15 := hB.f15 d15
        subst ef15
        refine wpOp_step rfl fun K' hK' => ?_
        have hsl := HES.out
        subst hsl
        go_simp
        exact hK' _ _ (hK _ _ ⟨hs2, _, hl2, _, _, _, _, _, _, _, _, _, _, _, _, _, _, _, _, _, _, _, _, _, rfl, hB.s16 ⟩)
      · obtain rfl := (Option.some.inj ho)
        have hno : L 17 = false := (hlk 17 (by decide)).symm.trans (getD_ft hsz (by decide) hl)
        obtain ⟨hs2, hl2⟩ := lnk hsz hlk (i := 17) (by decide)
        have d16 : L 16 = true := (hlk 16 (by decide)).symm.trans (hdep ⟨16, .data⟩ (by simp) rfl)
        have ef16 := hB.f16 d16
        obtain ⟨q18, q19⟩ := hB.q18 (by simp [show L 17 = false from hno])
        subst ef16
        refine wpOp_step rfl fun K' hK' => ?_
        go_simp
        go_at_call 74
        refine (uRoom_any css.length W hN).mono ?_
        rintro e W2 ⟨u, fs, rfl, hq, bel2⟩
        exact hK' _ _ (hK _ _ ⟨hs2, _, hl2, _, _, _, _, _, _, _, _, _, _, _, _, _, _, _, _, _, _, _, _, _, rfl, hB.s17 q18 q19 bel2 (wq_base hq hw)⟩)
      · obtain rfl := (Option.some.inj ho)
        have hno : L 18 = false := (hlk 18 (by decide)).symm.trans (getD_ft hsz (by decide) hl)
        obtain ⟨hs2, hl2⟩ := lnk hsz hlk (i := 18) (by decide)
        have d1 : L 1 = true := (hlk 1 (by decide)).symm.trans (hdep ⟨1, .data⟩ (by simp) rfl)
        have d3 : L 3 = true := (hlk 3 (by decide)).symm.trans (hdep ⟨3, .data⟩ (by simp) rfl)
        have d7 : L 7 = true := (hlk 7 (by decide)).symm.trans (hdep ⟨7, .data⟩ (by simp) rfl)
        have d9 : L 9 = true := (hlk 9 (by decide)).symm.trans (hdep ⟨9, .data⟩ (by simp) rfl)
        have d13 : L 13 = true := (hlk 13 (by decide)).symm.trans (hdep ⟨13, .data⟩ (by simp) rfl)
        have d17 : L 17 = true := (hlk 17 (by decide)).symm.trans (hdep ⟨17, .data⟩ (by simp) rfl)
        have ef1 := hB.f1 d1
        subst ef1
        have hsl := HES.out
        subst hsl
        have ef3 := hB.f3 d3
        obtain ⟨g3, ef3, -⟩ := ef3
        subst ef3
        obtain ⟨g7, ef7, -⟩ := hB.f7 d7
        subst ef7
        obtain ⟨g9, ef9, -⟩ := hB.f9 d9
        subst ef9
        obtain ⟨g13, ef13, -⟩ := hB.f13 d13
        subst ef13
        obtain ⟨fs17, Ls17, -, hw17, -⟩ := hB.f17 d17
        obtain ⟨a17, c17, ef17⟩ := row_form' hw17.row
        clear hw17
        subst ef17
        refine wpOp_step rfl fun K' hK' => ?_
        go_simp
        exact hK' _ _ (hK _ _ ⟨hs2, _, hl2, _, _, _, _, _, _, _, _, _, _, _, _, _, _, _, _, _, _, _, _, _, rfl, hB.s18 ⟨d1, d3, d7, d9, d13, d17⟩⟩)
      · obtain rfl := (Option.some.inj ho)
        have hno : L 19 = false := (hlk 19 (by decide)).symm.trans (getD_ft hsz (by decide) hl)
        obtain ⟨hs2, hl2⟩ := lnk hsz hlk (i := 19) (by decide)
        have d18 : L 18 = true := (hlk 18 (by decide)).symm.trans (hdep ⟨18, .data⟩ (by simp) rfl)
        have ef18 := hB.f18 d18
        have q20 := hB.q20 hno
        obtain ⟨d1, d3, d7, d9, d13, d17⟩ := hB.c18 d18
        have ef1 := hB.f1 d1
        subst ef1
        have hsl := HES.out
        subst hsl
        have ef3 := hB.f3 d3
        obtain ⟨g3, ef3, -⟩ := ef3
        subst ef3
        obtain ⟨g7, ef7, -⟩ := hB.f7 d7
        subst ef7
        obtain ⟨g9, ef9, -⟩ := hB.f9 d9
        subst ef9
        obtain ⟨g13, ef13, -⟩ := hB.f13 d13
        subst ef13
        obtain ⟨fs17, Ls17, -, hw17, -⟩ := hB.f17 d17
        obtain ⟨a17, c17, ef17⟩ := row_form' hw17.row
        clear hw17
        subst ef17
        subst ef18
        refine wpOp_step rfl fun K' hK' => ?_
        go_simp
        exact hK' _ _ (hK _ _ ⟨hs2, _, hl2, _, _, _, _, _, _, _, _, _, _, _, _, _, _, _, _, _, _, _, _, _, rfl, hB.s19 d18 q20 hw⟩)
      · obtain rfl := (Option.some.inj ho)
        have hno : L 20 = false := (hlk 20 (by decide)).symm.trans (getD_ft hsz (by decide) hl)
        obtain ⟨hs2, hl2⟩ := lnk hsz hlk (i := 20) (by decide)
        have d19 : L 19 = true := (hlk 19 (by decide)).symm.trans (hdep ⟨19, .data⟩ (by simp) rfl)
        refine wpOp_step rfl fun K' hK' => ?_
        go_simp
        exact hK' _ _ (hK _ _ ⟨hs2, _, hl2, _, _, _, _, _, _, _, _, _, _, _, _, _, _, _, _, _, _, _, _, _, rfl, hB.s20 d19⟩)
    · intro listed a W hI hall
      obtain ⟨hsz, L, hlk, x4, x10, x11, x12, x13, x14, x15, x16, x17, x18, x19, x20, x21, x22, x23, x24, x25, x26, x27, x28, x29, rfl, hB⟩ := hI
      have HF := HCut.out L W x4 x10 x11 x12 x13 x14 x15 x16 x17 x18 x19 x20 x21 x22 x23 x24 x25 x26 x27 x28 x29 (fun j hj => (hlk j hj).symm.trans (hall j hj)) hB
      have HF : Hid (_) := HF
      clear hB hlk hall hsz
      go_wp2_with fail
      go_meet
      exact HF.out
  case rest =>
  obtain ⟨b, sz, rfl, hce, hsC, hb1⟩ := hcut
  have HCe : Hid (Ce w wc b sz n (ent css 0) (fun _ => false) ∧ sz.C = s) := ⟨by rw [ent_zero]; exact hce, hsC⟩
  have k2 : wc.cell? ⟨w.heap.size, 1, none⟩ = some s := (hb1.cell (p := ⟨w.heap.size, 1, none⟩) (World.block_lt_of_cell? w1 _ k1)).trans k1
  have HAT : Hid (∀ (W : World) (k : Nat), Below w.heap.size w W → k < css.length → ∃ bb off u, a = some ⟨bb, off, none⟩ ∧ W.cell? ⟨bb, off + k, none⟩ = some u ∧ Rd w u (css.getD k [])) := fun W k hW hk => by
    have h9 := HR.out
    rw [HES.out] at h9
    obtain ⟨a', c', e', -, -, hAT⟩ := h9.form
    injection e' with e' _ _
    subst e'
    obtain ⟨bb, off, u, e, hc, hrd⟩ := hAT k hk
    exact ⟨bb, off, u, e, (hW.cell (p := ⟨bb, off + k, none⟩) (World.block_lt_of_cell? w _ hc)).trans hc, hrd⟩
  have HLit : Hid (∀ c ∈ css, ∀ l ∈ c, fmd l = true ∧ idx l < (n : Int)) := fun c hc l hl => by
    have h1 := (grt_range css).2.2 c hc l hl
    have h2 := hf c hc l hl
    have h3 := idx_lt2 h2
    have h4 := HG.out
    have h5 := HN2.out
    exact ⟨h2, by omega⟩
  clear hce hsC hb1 k0 k1 HR1 HRd hf hGw
  generalize wc = w2 at *
  have hsl : s = .slice a css.length c := HES.out
  rw [hsl] at k2
  clear hsl
  go_wp2
  go_loopg [33] css.length (fun g j' wr => ∃ (j : Nat) (sz : Sz) (Q' : Nat → Bool), j + g = css.length ∧ j' = .int .i64 j ∧ Ce w wr b sz n (ent css j) Q' ∧ sz.C = s ∧ ∀ k, Q' k = true ↔ k < j ∧ cnt [] (css.getD k []) ≤ 1)
  case atStart => exact ⟨0, sz, _, by omega, rfl, HCe.out.1, HCe.out.2, fun k => by simp⟩
  case round =>
    obtain ⟨j, sz, Q', hj, rfl, hce, hsC, hQ⟩ := hrel
    have HJ : Hid (j + gk = css.length) := hj
    have HCe : Hid (Ce w wr b sz n (ent css j) Q' ∧ sz.C = s ∧ ∀ k, Q' k = true ↔ k < j ∧ cnt [] (css.getD k []) ≤ 1) := ⟨hce, hsC, hQ⟩
    clear hj hce hsC hQ
    by_cases hlt : j < css.length
    · obtain ⟨bb, off, u, rfl, kc, hrd⟩ := HAT.out wr j HCe.out.1.bel hlt
      have HRd : Hid (Rd w u (css.getD j [])) := hrd
      obtain ⟨au, cu, rfl, -, -, -⟩ := hrd.form
      have HLT : Hid (j < css.length) := hlt
      have HSet : Hid ((ent css j).set j (css.getD j []) = ent css (j + 1) ∧ j < (ent css j).length ∧ (ent css j).getD j [] = [] ∧ (∀ k, j < k → (ent css j).getD k [] = []) ∧ lsum (ent css j) + (css.getD j []).length ≤ 2147483647) := ⟨ent_set hlt, by rw [ent_len (by omega)]; exact hlt, ent_at hlt, fun k hk => ent_gt hk, Nat.le_trans (ent_sum hlt) HSz.out.2⟩
      have hqj : Q' j = false := by
        cases e : Q' j
        · rfl
        · have := ((HCe.out.2.2 j).1 e).1; omega
      have hwj : IntKind.i32.wrap (j : Int) = (j : Int) := by rw [wrap_i32']; omega
      have HLj : Hid ((∀ l ∈ css.getD j [], fmd l = true ∧ idx l < (n : Int)) ∧ (css.getD j []).length ≤ 1073741824) := ⟨HLit.out _ (getD_in hlt), HLs.out _ (getD_in hlt)⟩
      clear hrd
      generalize hcj : css.getD j [] = cj at *
      have HCj : Hid (css.getD j [] = cj) := hcj
      clear hcj
      have HEnt : Hid (Calls Tryd.prog 75 #[.pointer (some ⟨b, 0, none⟩), .int .i32 (j : Int), .slice au cj.length cu] wr fun e w' => e = .returned (.tuple #[]) ∧ ∃ u Q2, Ce w w' b { sz with P := u } n (ent css (j + 1)) Q2 ∧ ∀ k, Q2 k = true ↔ k < j + 1 ∧ cnt [] (css.getD k []) ≤ 1) :=
        (uEnter_any w b sz n (ent css j) Q' j (.slice au cj.length cu) cj wr HCe.out.1 HRd.out HSet.out.2.1 HSet.out.2.2.1 HSet.out.2.2.2.1 HLj.out.1 HLj.out.2 HSet.out.2.2.2.2 hqj).mono fun e w3 hh => by
          obtain ⟨he, u3, Q3, hen, hQ3⟩ := hh
          refine ⟨he, u3, Q3, by rw [← HSet.out.1]; exact hen.ce, fun k => ?_⟩
          rw [hQ3 k, HCe.out.2.2 k]
          constructor
          · rintro (⟨h1, h2⟩ | ⟨h1, h2⟩)
            · exact ⟨by omega, h2⟩
            · subst h1; exact ⟨by omega, by rw [HCj.out]; exact h2⟩
          · rintro ⟨h1, h2⟩
            by_cases e : k = j
            · subst e; exact .inr ⟨rfl, by rw [← HCj.out]; exact h2⟩
            · exact .inl ⟨by omega, h2⟩
      have HsC : Hid (sz.C = s) := HCe.out.2.1
      clear HCe HSet HRd HLj
      go_wp2_with fail
      refine HEnt.out.mono ?_
      rintro e w3 ⟨rfl, u3, Q3, hce3, hQ3⟩
      have HF : Hid (Ce w w3 b { sz with P := u3 } n (ent css (j + 1)) Q3 ∧ sz.C = s ∧ ∀ k, Q3 k = true ↔ k < j + 1 ∧ cnt [] (css.getD k []) ≤ 1) := ⟨hce3, HsC.out, hQ3⟩
      clear hce3 hQ3 kc
      go_wp2
      go_roundg (gk - 1)
      case measure => have := HJ.out; have := HLT.out; omega
      case rel => exact ⟨j + 1, { sz with P := u3 }, Q3, by have := HJ.out; have := HLT.out; omega, by go_num, HF.out⟩
    · have hje : j = css.length := by have := HJ.out; omega
      have HF : Hid (Cw w wr b sz (2 * (grt css).toNat) css [] Q' [] ∧ sz.C = s ∧ Inv css [] Q') := by
        have h1 := HCe.out
        rw [hje, ent_all] at h1
        obtain ⟨hce, hsC, hQ⟩ := h1
        have hn3 : 2 * (grt css).toNat = n := by rw [HG.out, HN2.out]; simp
        rw [hn3]
        obtain ⟨F, P, hz, hp, hP⟩ := hce.z
        refine ⟨⟨hce.bel, hce.fit, F, P, hz, hp, by have := HSz.out.2; omega⟩, hsC, fun k hk => ?_, fun k hk hc => .inl ((hQ k).2 ⟨hk, hc⟩)⟩
        exact (hQ k).1 hk
      go_wp2
      go_ret
      exact ⟨b, sz, Q', rfl, HF.out⟩
end Go.Proofs.YtkinilhapgagcaaDoor
