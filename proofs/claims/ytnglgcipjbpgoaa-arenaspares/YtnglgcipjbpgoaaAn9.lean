/-
  depotlaw04: plays: Sweep, walked.
  KEEP: set on app at below new trans refl start ap kept rd rds mono own row cells lt box lo ml ms c0 f0 form max find eq ma some none more map keep ps arStep docStep toldStep movedStep renote tys obj bel
-/
import Derived.Test.YtnglgcipjbpgoaaAn8
set_option linter.unusedSimpArgs false
set_option linter.unusedVariables false
namespace Go.Proofs.Ytnglgcipjbpgoaa
open Go Go.RowKit Go.Maps

theorem sweep_fin {F F2 : Nat → Prop} {w W6 w7 : World} {D b m tm tb c7 mc : Nat} {v1 lv7 tv5 : Value} {m7 ma : Option Addr} {S : List Seg} {L L7 : List Mt} {T : List Te} (p : Ps4 F F2 w W6)
    (g7 : Pq4 (Fn4 F2 W6 w7) w7 D b v1 (swp S) m lv7 L7 (swp S) tv5 (T ++ [⟨tm, tb, .slice none 0 0, S⟩]) (.slice ma T.length mc) T ∧ Ps4 F2 (Fn4 F2 W6 w7) W6 w7)
    (own7 : w7.ownsRow W6.heap.size 91 2 (.slice m7 (mvd4 0 (live4 (plc 0 S))).length c7) (mvd4 0 (live4 (plc 0 S))).length (rowsV (mvd4 0 (live4 (plc 0 S))))) (hSL : S.length = L.length) (hL : L.length ≤ 1099511627776) (ll7 : L7.length ≤ L.length) :
    ∀ v8 w8, w8.ownsRow 0 72 1 v8 (T.length + 1) (T.map Te.mv ++ [.slice m7 (mvd4 0 (live4 (plc 0 S))).length c7]) → Ap (w7.alloc (.cells #[.slice m7 (mvd4 0 (live4 (plc 0 S))).length c7] 72)) (.slice ma T.length mc) w8 v8 → Pl4 F D b m S L T 0 w (.returned (.bool true)) (w8.setCell ⟨D, 3, none⟩ v8) ∧ w8.cell? ⟨D, 3, none⟩ = some (.slice ma T.length mc) ∧ w8.frozen? ⟨D, 3, none⟩ = false := fun v8 w8 own8 ap8 => by
  have h3 := g7.1.renote (t' := ⟨tm, tb, .slice m7 (mvd4 0 (live4 (plc 0 S))).length c7, S⟩) rfl rfl rfl
  have q := moved_fin h3 ⟨tm, tb, .slice m7 (mvd4 0 (live4 (plc 0 S))).length c7, S⟩ (row_mono own7 (Nat.zero_le _)) (by have := md_len S; show (mvd4 0 (live4 (plc 0 S))).length ≤ _; omega) (fun g hg => .inr (World.ownsRow.lt own7 g hg)) own8 ap8
  exact ⟨⟨_, _, _, _, _, _, _, _, rfl, q.1, (p.trans g7.2).trans q.2.1, flat_swp_le S, by omega, by simp⟩, q.2.2.1, q.2.2.2⟩
set_option maxRecDepth 100000 in
set_option maxHeartbeats 3200000 in
theorem plays6_any (F : Nat → Prop) (D b m : Nat) (v rv tv mv : Value) (S : List Seg) (L : List Mt) (T : List Te) (q1 q2 q3 q4 : Value) (w : World) (h : Pr4 F w D b v S m rv L tv mv T) (hl : (flat S).length ≤ 1099511627776) (hL : L.length ≤ 1099511627776) (hT : T.length ≤ 1099511627776) :
    Calls Try.prog 7 #[.pointer (some ⟨D, 0, none⟩), .agg #[.int .i64 6, q1, q2, q3, q4]] w fun e w' => Pl4 F D b m S L T 0 w e w' := by
  obtain ⟨iF, hiF, hF0, hF1, hF2⟩ := info_parts infoF4
  obtain ⟨iN, hiN, hN0, hN1, hN2⟩ := info_parts infoN4
  have hb0 := below_box w (.cells #[.int .i64 6, q1, q2, q3, q4] 34)
  have ho0 := opObj (w := w) (a := .int .i64 6) (b := q1) (c := q2) (d := q3) (e := q4)
  obtain ⟨k0, -, -, -, -⟩ := op_cell ho0
  have HI0 : Hid (Pr4 F (w.alloc (.cells #[.int .i64 6, q1, q2, q3, q4] 34)) D b v S m rv L tv mv T ∧ Ps4 F F w (w.alloc (.cells #[.int .i64 6, q1, q2, q3, q4] 34))) := ⟨h.below hb0, Ps4.of_below hb0⟩
  have hc0 := HI0.out.1.cells.1
  have HSL : Hid (S.length = L.length) := by
    show _ = _
    have := congrArg List.length h.mz.eq
    rw [plc_len, List.length_map] at this
    exact this.symm
  have HLe : Hid (L.length ≤ 1099511627776 ∧ (flat S).length ≤ 1099511627776) := ⟨hL, hl⟩
  clear h hb0 ho0
  go_enter Try.func7, Try.ntmps7
  go_wp2_with fail
  generalize w.alloc (.cells #[.int .i64 6, q1, q2, q3, q4] 34) = W0 at *
  refine (sweep_any b v S W0 HI0.out.1.ar (by omega) (by omega)).mono ?_
  rintro e w1 ⟨tm, tb, v1, rfl, ar1, mv1, lt1, lt2, te1, -⟩
  have g1 := HI0.out.1.arStep mv1 ar1
  obtain ⟨ta, tc, htv⟩ := row_form g1.1.tr
  obtain ⟨ma, mc, hmv⟩ := row_form g1.1.mr
  subst htv
  subst hmv
  have HQ1 : Hid (Pq4 (Fn4 F W0 w1) w1 D b v1 (swp S) m rv L S (.slice ta T.length tc) T (.slice ma T.length mc) T ∧ Ps4 F (Fn4 F W0 w1) w w1 ∧ TellsAt w1 tm tb (lv 0 S) ∧ Fn4 F W0 w1 tm ∧ Fn4 F W0 w1 tb) := ⟨g1.1, HI0.out.2.trans g1.2, te1, .inr ⟨lt1, (tells_lt te1).1⟩, .inr ⟨lt2, (tells_lt te1).2⟩⟩
  have HTA : Hid (Pq4 (Fn4 F W0 w1) (w1.alloc (.cells #[.func (.func 45) #[] #[.pointer (some ⟨tm, 0, none⟩)]] 70)) D b v1 (swp S) m rv L S (.slice ta T.length tc) T (.slice ma T.length mc) T) := g1.1.below (below_box _ _)
  have x2 := g1.1.cells.2.2.1
  have x3 := HTA.out.cells.2.2.1
  have hnn := fn_nil4 ⟨tm, tb, .slice none 0 0, S⟩
  unfold fnT at hnn
  have HFi : Hid (∀ v5 w5, w5.ownsRow 0 70 1 v5 (T.length + 1) (T.map fnT ++ [.func (.func 45) #[] #[.pointer (some ⟨tm, 0, none⟩)]]) → Ap (w1.alloc (.cells #[.func (.func 45) #[] #[.pointer (some ⟨tm, 0, none⟩)]] 70)) (.slice ta T.length tc) w5 v5 →
      ∃ F2, Pq4 F2 (w5.setCell ⟨D, 2, none⟩ v5) D b v1 (swp S) m rv L S v5 (T ++ [⟨tm, tb, .slice none 0 0, S⟩]) (.slice ma T.length mc) T ∧ Ps4 F F2 w (w5.setCell ⟨D, 2, none⟩ v5) ∧ w5.cell? ⟨D, 2, none⟩ = some (.slice ta T.length tc) ∧ w5.frozen? ⟨D, 2, none⟩ = false) := fun v5 w5 o5 a5 => by
    have q := told_fin HQ1.out.1 ⟨tm, tb, .slice none 0 0, S⟩ HQ1.out.2.2.1 HQ1.out.2.2.2.1 HQ1.out.2.2.2.2 o5 a5
    exact ⟨_, q.1, HQ1.out.2.1.trans q.2.1, q.2.2.1, q.2.2.2⟩
  clear ar1 mv1 lt1 lt2 te1 g1 k0 hc0
  go_upto_region 25 with (at_builtin; refine wpList_append_apk rfl _ _ 25 rfl 0 70 iF .nilFunc 1 8 undF4 hiF hF0 hF1 hF2 rfl (by decide) (.slice ta T.length tc) T.length (T.map fnT) rfl HTA.out.tr ⟨w1.heap.size, 0, none⟩ 1 1 [.func (.func 45) #[] #[.pointer (some ⟨tm, 0, none⟩)]] rfl rfl (one_new4 _ _ _) (by simp [Value.oneCell']) (by unfold maxLen; omega) (by omega) (Nat.zero_le _) ?_; intro v5 w5 own5 ap5; obtain ⟨F2, hq2⟩ := HFi.out v5 w5 own5 ap5; have x5 := hq2.2.2.1; have x6 := hq2.2.2.2; have HQ2 : Hid (Pq4 F2 (w5.setCell ⟨D, 2, none⟩ v5) D b v1 (swp S) m rv L S v5 (T ++ [⟨tm, tb, .slice none 0 0, S⟩]) (.slice ma T.length mc) T ∧ Ps4 F F2 w (w5.setCell ⟨D, 2, none⟩ v5)) := ⟨hq2.1, hq2.2.1⟩; obtain ⟨a5, c5, hv5⟩ := row_form own5; subst hv5; clear own5 ap5 hq2)
  generalize w5.setCell ⟨D, 2, none⟩ (.slice a5 (T.length + 1) c5) = W6 at *
  have HW6 : Hid (Below W6.heap.size W6 W6.drew) := (Below.refl _ _).drew
  have HQ3 : Hid (Pq4 F2 W6.drew D b v1 (swp S) m rv L S (.slice a5 (T.length + 1) c5) (T ++ [⟨tm, tb, .slice none 0 0, S⟩]) (.slice ma T.length mc) T ∧ Ps4 F F2 w W6.drew) := ⟨HQ2.out.1.below HW6.out, HQ2.out.2.trans (Ps4.of_below HW6.out)⟩
  have y1 : W6.cell? ⟨D, 1, none⟩ = some (.pointer (some ⟨m, 0, none⟩)) := HQ2.out.1.cells.2.1
  have y3 : W6.cell? ⟨D, 3, none⟩ = some (.slice ma T.length mc) := HQ2.out.1.cells.2.2.2.1
  have HSw : Hid (Calls Try.prog 32 #[.pointer (some ⟨m, 0, none⟩)] W6.drew fun e w' => Sw4 0 W6.drew m rv L S e w') := mSweep_any 0 m rv L S W6.drew HQ3.out.1.mz hL hl (Nat.zero_le _)
  clear x2 x3 x5 x6
  go_region_law (first
    | (refine step_append_apk rfl (.tmp 173) (.tmp 179) 26 rfl 0 72 iN (.slice none 0 0) 1 24 undN4 hiN hN0 hN1 hN2 rfl (by decide) (.slice ma T.length mc) T.length (T.map Te.mv) (by simp [Act.eval, Act.put]) HQ7.out.mr ⟨w7.heap.size, 0, none⟩ 1 1 [.slice m7 (mvd4 0 (live4 (plc 0 S))).length c7] (by simp [Act.eval, Act.put]) rfl (one_new4 _ _ _) (by simp [Value.oneCell']) (by unfold maxLen; omega) (by omega) (Nat.zero_le _) ?_; intro v8 w8 own8 ap8; have hq8 := HFj.out v8 w8 own8 ap8; have z5 := hq8.2.1; have z6 := hq8.2.2; have HQ8 : Hid (Pl4 F D b m S L T 0 w (.returned (.bool true)) (w8.setCell ⟨D, 3, none⟩ v8)) := hq8.1; obtain ⟨a8, c8, hv8⟩ := row_form own8; subst hv8; clear own8 ap8 hq8)
    | (go_wp2_with (go_at_call 32; refine Calls.mono HSw.out ?_; rintro e w7 ⟨mv7, lv7, L7, rfl, own7, mz7, mvv7, -, vs7, ll7⟩; have g7 := HQ3.out.1.docStep mvv7 mz7 vs7; obtain ⟨m7, c7, hmv7⟩ := row_form2 own7; subst hmv7; have HQ7 : Hid (Pq4 (Fn4 F2 W6.drew w7) (w7.alloc (.cells #[.slice m7 (mvd4 0 (live4 (plc 0 S))).length c7] 72)) D b v1 (swp S) m lv7 L7 (swp S) (.slice a5 (T.length + 1) c5) (T ++ [⟨tm, tb, .slice none 0 0, S⟩]) (.slice ma T.length mc) T) := g7.1.below (below_box _ _); have HFj : Hid (∀ v8 w8, w8.ownsRow 0 72 1 v8 (T.length + 1) (T.map Te.mv ++ [.slice m7 (mvd4 0 (live4 (plc 0 S))).length c7]) → Ap (w7.alloc (.cells #[.slice m7 (mvd4 0 (live4 (plc 0 S))).length c7] 72)) (.slice ma T.length mc) w8 v8 → Pl4 F D b m S L T 0 w (.returned (.bool true)) (w8.setCell ⟨D, 3, none⟩ v8) ∧ w8.cell? ⟨D, 3, none⟩ = some (.slice ma T.length mc) ∧ w8.frozen? ⟨D, 3, none⟩ = false) := sweep_fin HQ3.out.2 g7 own7 HSL.out HLe.out.1 ll7; have y1' : w7.cell? ⟨D, 1, none⟩ = some (.pointer (some ⟨m, 0, none⟩)) := g7.1.cells.2.1; have y3' : w7.cell? ⟨D, 3, none⟩ = some (.slice ma T.length mc) := g7.1.cells.2.2.2.1; have y3'' := HQ7.out.cells.2.2.2.1; clear own7 mz7 mvv7 vs7 ll7 g7)))
  all_goals
    go_wp2
    go_ret
    exact HQ8.out
end Go.Proofs.Ytnglgcipjbpgoaa
