/-
  CopyInts, CopyClauses, CopyFormula, walked; a formula that is built on from what was copied.
-/
import Derived.Test.YtlkbbbbclmffjaaGreatDoorKFormAns
import Derived.Laws.Rows
import Derived.Lib.Hide
set_option linter.unusedSimpArgs false
set_option linter.unusedVariables false
namespace Go.Proofs.YtlkbbbbclmffjaaGreatDoor
open Go.RowKit

theorem own_one_more {base : Nat} {w : World} {v : Value} {out : List Int} {x : Int} (h : w.ownsRow base 3 1 v (out.length + 1) (out.map (Value.int .i64) ++ [.int .i64 x])) : Own base w v (out ++ [x]) := by
  unfold Own; simpa using h
theorem rds_each {w : World} {v : Value} {css : List (List Int)} (h : Rds w v css) : ∀ z ∈ css, z.length * 8 ≤ 140737488351232 := fun z hz => by
  obtain ⟨k, hk, rfl⟩ := List.getElem_of_mem hz
  obtain ⟨_, _, _, _, _, hc⟩ := h.form
  obtain ⟨_, _, u, _, _, hr⟩ := hc k hk
  have := hr.len
  simpa [List.getD_eq_getElem?_getD, hk] using this
theorem ownf_form {B : Nat} {W : World} {s : Value} {css : List (List Int)} (h : OwnF B W s css) : ∃ a c, s = .slice a css.length c := by
  obtain ⟨L, h, rfl⟩ := h
  obtain ⟨a, c, e⟩ := row_form h.row
  exact ⟨a, c, by rw [e]; simp⟩

set_option maxHeartbeats 1600000 in
theorem copyInts_any (v : Value) (zs : List Int) (w : World) (hr : Rd w v zs) :
    Calls Tryz.prog 39 #[v] w fun e w' => ∃ u, e = .returned u ∧ Own w.heap.size w' u zs ∧ Below w.heap.size w w' := by
  have hl := hr.len
  have HR : Hid (Rd w v zs) := hr
  obtain ⟨a, c, rfl, hc, hm, _⟩ := hr.form
  obtain ⟨i0, hi, hz0, hz1, hz2⟩ := info_parts Tryz.info3
  clear hr
  go_enter Tryz.func39, Tryz.ntmps39
  go_wp2
  go_loopg [3, 4] zs.length (fun g u i wr => ∃ k : Nat, k + g = zs.length ∧ i = .int .i64 k ∧ Own w.heap.size wr u (zs.take k) ∧ Below w.heap.size w wr)
  case atStart => exact ⟨0, by omega, rfl, World.ownsRow_nil _ _ _ _, Below.refl _ _⟩
  case round =>
    obtain ⟨k, hk, rfl, own, bel⟩ := hrel
    have HK : Hid (k + gk = zs.length) := hk
    have hs := bel.size
    by_cases hlt : k < zs.length
    · obtain ⟨a', c', e', _, _, hcell⟩ := (HR.out.below bel).form
      have e3 : a' = a ∧ c' = c := by injection e' with q1 q2 q3; exact ⟨q1.symm, q3.symm⟩
      obtain ⟨rfl, rfl⟩ := e3
      obtain ⟨b, off, rfl, hck⟩ := hcell k hlt
      have HS : Hid (zs.take (k + 1) = zs.take k ++ [zs.getD k 0]) := take_succ_getD zs 0 k hlt
      have hlk : (zs.take k).length ≤ k := by simp; omega
      clear hk hcell e'
      generalize zs.take k = out at *
      generalize zs.getD k 0 = z at *
      go_wp2_with (at_builtin; refine wpList_append_own _ rfl _ _ 43 rfl w.heap.size 3 i0 (.int .i64 0) 1 8 Tryz.underlying43 hi hz0 hz1 hz2 rfl (by decide) _ out.length (out.map (Value.int .i64)) rfl (World.ownsRow.alloc own _) _ 1 1 [.int .i64 z] rfl rfl (cell_one_new _ _ _) (by simp [Value.oneCell']) (by unfold maxLen; omega) (by omega) (by simp; omega) ?_; intro v2 w2 own2 gr2 hn2)
      go_roundg (gk - 1)
      case measure => have := HK.out; omega
      case rel => exact ⟨k + 1, by have := HK.out; omega, by go_num, by rw [HS.out]; exact own_one_more own2, (bel.alloc hs _).grown gr2 (by simp; omega) (fun j hj => (own.lt j hj).1)⟩
    · obtain rfl : k = zs.length := by omega
      rw [List.take_length] at own
      clear hk
      go_wp2
      go_ret
      exact ⟨_, rfl, own, bel⟩

set_option maxHeartbeats 1600000 in
theorem copyClauses_any (s : Value) (css : List (List Int)) (w : World) (hr : Rds w s css) :
    Calls Tryz.prog 24 #[s] w fun e w' => ∃ u, e = .returned u ∧ OwnF w.heap.size w' u css ∧ Below w.heap.size w w' := by
  have hl := hr.len
  have HR : Hid (Rds w s css) := hr
  obtain ⟨a, c, rfl, hc, hm, _⟩ := hr.form
  obtain ⟨il, hil, hzl0, hzl1, hzl2⟩ := info_parts infoR
  clear hr
  go_enter Tryz.func24, Tryz.ntmps24
  go_wp2
  go_loopg [3, 4] css.length (fun g u i wr => ∃ (k : Nat) (L : List Cls), k + g = css.length ∧ i = .int .i64 k ∧ L.length = k ∧ L.map Prod.snd = css.take k ∧ Hid (OwnR w.heap.size wr u L) ∧ Below w.heap.size w wr)
  case atStart => exact ⟨0, [], by omega, rfl, rfl, by simp, OwnR.nil _ _, Below.refl _ _⟩
  case round =>
    obtain ⟨k, L, hk, rfl, hLk, hL, HO, bel⟩ := hrel
    have HK : Hid (k + gk = css.length) := hk
    have HLs : Hid (L.map Prod.snd = css.take k) := hL
    have hs := bel.size
    have HLk : Hid (L.length = k) := hLk
    have hLk2 : L.length ≤ k := by omega
    clear hL hLk
    by_cases hlt : k < css.length
    · obtain ⟨a', c', e', _, _, hcell⟩ := (HR.out.below bel).form
      have e3 : a' = a ∧ c' = c := by injection e' with q1 q2 q3; exact ⟨q1.symm, q3.symm⟩
      obtain ⟨rfl, rfl⟩ := e3
      obtain ⟨b, off, u, rfl, hck, hu0⟩ := hcell k hlt
      have HU : Hid (Rd wr u (css.getD k [])) := hu0
      have HS : Hid (css.take (k + 1) = css.take k ++ [css.getD k []]) := take_succ_getD css [] k hlt
      obtain ⟨_, ua, uc, hu, _⟩ := hu0
      clear hk hcell e'
      generalize css.getD k [] = z at *
      subst hu
      go_wp2_with fail
      refine (copyInts_any _ z wr HU.out).mono ?_
      rintro e w2 ⟨u2, rfl, own2, bel2⟩
      obtain ⟨a2, c2, hu2⟩ := own_form own2
      subst hu2
      have O2 : Hid (Own w.heap.size w2 (.slice a2 z.length c2) z) := own2.mono hs
      have HO2 : Hid (OwnR w.heap.size w2 _ L) := HO.out.below bel2
      have HAP : Hid (ApartC (L ++ [(.slice a2 z.length c2, z)])) := ApartC.snoc HO.out.ap HO.out.own own2 (Nat.le_refl _)
      have b2 : Below w.heap.size w w2 := bel.trans (bel2.mono hs)
      have s2 := b2.size
      clear own2 bel2
      go_wp2_with (at_builtin; refine wpList_append_own _ rfl _ _ 22 rfl w.heap.size 43 il (.slice none 0 0) 1 24 Tryz.underlying22 hil hzl0 hzl1 hzl2 rfl (by decide) _ L.length (L.map Prod.fst) rfl (World.ownsRow.alloc HO2.out.row _) _ 1 1 [.slice a2 z.length c2] rfl rfl (cell_one_new _ _ _) (by simp [Value.oneCell']) (by unfold maxLen; omega) (by omega) (by simp; omega) ?_; intro v3 w3 own3 gr3 hn3)
      go_roundg (gk - 1)
      case measure => have := HK.out; omega
      case rel => exact ⟨k + 1, L ++ [(Value.slice a2 z.length c2, z)], by have := HK.out; omega, by go_num, by simp; exact HLk.out, by rw [HS.out, List.map_append, HLs.out]; rfl, HO2.out.app (World.grownBy_alloc _ _ none) own3 gr3 O2.out HAP.out, (b2.alloc s2 _).grown gr3 (by simp; omega) (fun j hj => (World.ownsRow.lt HO2.out.row j hj).1)⟩
    · obtain rfl : k = css.length := by omega
      have HE : Hid (L.map Prod.snd = css) := by have := HLs.out; rw [List.take_length] at this; exact this
      clear hk
      go_wp2
      go_ret
      exact ⟨_, rfl, ⟨L, HO.out, HE.out⟩, bel⟩

set_option maxHeartbeats 1600000 in
theorem copyFormula_any (n : Int) (s : Value) (css : List (List Int)) (w : World) (hr : Rds w s css) :
    Calls Tryz.prog 8 #[.agg #[.int .i64 n, s]] w fun e w' => ∃ u, e = .returned (.agg #[.int .i64 n, u]) ∧ OwnF w.heap.size w' u css ∧ Below w.heap.size w w' := by
  have HX : Hid (En w n s css ((w.alloc (.cells #[.int .i64 n, s] 24)).alloc (.cells #[.int .i64 0, .slice none 0 0] 24))) := En.new hr
  have c1 := HX.out.bx.c1
  clear hr
  go_enter Tryz.func8, Tryz.ntmps8
  go_wp2_with fail
  clear c1
  generalize (w.alloc (.cells #[.int .i64 n, s] 24)).alloc (.cells #[.int .i64 0, .slice none 0 0] 24) = W0 at *
  refine (copyClauses_any s css W0 HX.out.bx.rd).mono ?_
  rintro e w1 ⟨u1, rfl, own1, bel1⟩
  obtain ⟨a1, k1, hu1⟩ := ownf_form own1
  subst hu1
  have HX1 : Hid (En w n s css w1) := HX.out.on bel1
  have HO1 : Hid (OwnF w.heap.size w1 (.slice a1 css.length k1) css) := own1.mono HX.out.bx.bel.size
  have c0 := HX1.out.bx.c0
  have c1 := HX1.out.bx.c1
  have a0 := HX1.out.ans.c0
  have a1' := HX1.out.ans.c1
  have f0 := HX1.out.ans.f0
  have f1 := HX1.out.ans.f1
  clear HX own1 bel1
  go_wp2
  have hb := (HX1.out.ans.set0 (.int .i64 n)).set1 (.slice a1 css.length k1)
  try simp only [Exit.inBlock, Exit.then]
  refine bodyPost_ret (results_cell_row rfl _ _ (w.heap.size + 1) 24 #[.int .i64 n, .slice a1 css.length k1] (0, 0) _ rfl hb Tryz.underlying24 rfl (by kernel_rfl)) rfl ?_
  exact ⟨_, rfl, (HO1.out.set HX1.out.ans (by decide) (by decide) _ _).set (HX1.out.ans.set0 _) (by decide) (by decide) _ _, below_set (below_set HX1.out.bx.bel (by omega) _ _) (by omega) _ _⟩

end Go.Proofs.YtlkbbbbclmffjaaGreatDoor
