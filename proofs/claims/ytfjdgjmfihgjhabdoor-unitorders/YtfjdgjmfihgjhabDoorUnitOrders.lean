/-
  UnitOrders: the walk (walks/genorders.py writes it).
  KEEP: set on app at below new trans refl start ap kept rd rds mono lt add none own nil put len pos setF setV putL putR other neV same_any
-/
import Derived.Test.YtfjdgjmfihgjhabDoorUnOr
import Derived.Test.YtfjdgjmfihgjhabDoorTruth
set_option linter.unusedSimpArgs false
set_option linter.unusedVariables false
namespace Go.Proofs.YtfjdgjmfihgjhabDoor
open Go Go.RowKit
theorem infoLo : (Tryd.prog.info? 25).map (fun i => (i.zero, i.size, i.bytes)) = some (some (.slice none 0 0), 1, 24) := by kernel_rfl
theorem drop_rev {z : List Int} {i : Nat} (h : i < z.length) : (z.drop i).reverse = (z.drop (i + 1)).reverse ++ [z.getD i 0] := by
  rw [List.drop_eq_getElem_cons h, List.reverse_cons, List.getD_eq_getElem?_getD, List.getElem?_eq_getElem h]; rfl
theorem twist_cons {z : List Int} (h : z ≠ []) : twist z = z.reverse ++ [z.reverse.getD 0 0] := by
  unfold twist
  have h1 : z.reverse ≠ [] := by simpa using h
  cases e : z.reverse with
  | nil => exact absurd e h1
  | cons a r => simp
theorem own_onemore6 {B : Nat} {w : World} {v : Value} {zs : List Int} {l : Int} (h : w.ownsRow B 3 1 v (zs.length + 1) (zs.map (Value.int .i64) ++ [.int .i64 l])) : Own B w v (zs ++ [l]) := by
  unfold Own; simpa using h
theorem rd_two (w : World) (l : Int) : Rd (w.alloc (.cells #[.int .i64 l, .int .i64 l] 3)) (.slice (some ⟨w.heap.size, 0, none⟩) 2 2) [l, l] := by
  refine ⟨by simp, _, 2, rfl, Nat.le_refl _, by unfold maxLen; decide, by simp, fun _ => ⟨w.heap.size, 0, rfl, by rw [World.size_alloc]; exact Nat.lt_succ_self _, fun j hj => ?_⟩⟩
  have hh := World.alloc_heap_new w (.cells #[.int .i64 l, .int .i64 l] 3)
  show (match (w.alloc (.cells #[.int .i64 l, .int .i64 l] 3)).heap[w.heap.size]? with | some (Obj.cells c elem frozen) => c[0 + j]? | x => none) = _
  rw [hh, Nat.zero_add]
  match j, hj with
  | 0, _ => rfl
  | 1, _ => rfl
theorem clz_lenO {w w' : World} {v : Int} {css : List (List Int)} {facts : List Int} {u : Value} {b : Bool} {D : List Int} (h : Clz w w' v css facts u b D) : D.length ≤ 2097152 := by
  have hn : D.Nodup := by
    by_cases h0 : cloE v css facts = 0
    · rcases h.yes h0 with ⟨_, _, e⟩ | ⟨_, _, hr, _⟩
      · rw [e]; exact List.nodup_nil
      · exact hr.imp (fun h => by intro e; subst e; omega)
    · rw [(h.no h0).2]; exact List.nodup_nil
  exact lits_few hn h.fmd
namespace unitOrders
set_option maxRecDepth 100000 in
set_option maxHeartbeats 16000000 in
theorem walk (n : Int) (s : Value) (css : List (List Int)) (vf : Value) (facts : List Int) (vm : Value) (ms : List Bool) (w : World) (_ : (Lit.int .i64 n).wf = true) (hr : Rds w s css) (hf : Rd w vf facts) (hm : RdB w vm ms) (hb : css.length + (css.map List.length).sum ≤ 1048576) (hb2 : facts.length ≤ 1048576) (hb3 : ms.length ≤ 1048576) (hD : Deb w) :
    Calls Tryd.prog 3 #[.agg #[.int .i64 n, s], vf, vm] w fun e w' => e = .returned (.bool true) ∧ Below w.heap.size w w' := by
  have HR : Hid (Rds w s css ∧ Rd w vf facts ∧ RdB w vm ms ∧ Deb w ∧ Few css) := ⟨hr, hf, hm, hD, Few.of (by omega) (by unfold lsum; omega)⟩
  have H8 : Hid (css.length * 24 ≤ 140737488351232 ∧ (∀ z ∈ css, z.length * 8 ≤ 140737488351232) ∧ facts.length ≤ 1048576 ∧ css.length ≤ 1048576 ∧ lsum css ≤ 1048576) := ⟨hr.len, rds_each hr, hb2, by omega, by unfold lsum; omega⟩
  have HB1 : Hid (Below w.heap.size w (w.alloc (.cells #[.int .i64 n, s] 24))) := below_box _ _
  have k0 := box0 w (.int .i64 n) s 24
  have k1 := box1 w (.int .i64 n) s 24
  have hbs : w.heap.size < (w.alloc (.cells #[.int .i64 n, s] 24)).heap.size := by rw [World.size_alloc]; exact Nat.lt_succ_self _
  have HX0 : Hid (∀ W, Below (w.alloc (.cells #[.int .i64 n, s] 24)).heap.size (w.alloc (.cells #[.int .i64 n, s] 24)) W → W.cell? ⟨w.heap.size, 0, none⟩ = some (.int .i64 n) ∧ W.cell? ⟨w.heap.size, 1, none⟩ = some s) := fun W hW => ⟨(hW.cell (p := ⟨w.heap.size, 0, none⟩) hbs).trans k0, (hW.cell (p := ⟨w.heap.size, 1, none⟩) hbs).trans k1⟩
  have HAw : Hid (∀ W, Below w.heap.size w W → Calls Tryd.prog 12 #[] W fun e w' => e = .returned (.bool true) ∧ Below w.heap.size w w') := fun W hW => (awake6_any W (hD.below hW)).mono fun e w' h => ⟨h.1, Below.step hW h.2⟩
  have hlc := hr.len
  have hcl : css.length ≤ 1048576 := by omega
  obtain ⟨sa, sc, rfl, hsa, hsb, _⟩ := hr.form
  obtain ⟨fa, fc, rfl, hfa, hfb, _⟩ := hf.form
  obtain ⟨am, cm, rfl, _⟩ := hm.form
  have ef : wrap64 ((facts.length : Int) - 1) = (facts.length : Int) - 1 := by unfold wrap64; omega
  clear hr hf hm hD hb hbs k0 k1
  go_enter Tryd.func3, Tryd.ntmps3
  go_wp2_with fail
  refine (copyFormula_any n _ css _ (HR.out.1.below (below_box _ _))).mono ?_
  rintro e w1 ⟨u1, rfl, own1, bel1⟩
  generalize w.alloc (.cells #[.int .i64 n, .slice sa css.length sc] 24) = W0 at *
  have H1 : Hid (Rds w1 u1 css ∧ Below W0.heap.size W0 w1) := ⟨own1.rds H8.out.1 H8.out.2.1, bel1⟩
  obtain ⟨a1, c1, e1⟩ := ownf_form own1
  subst e1
  clear own1 bel1
  go_wp2_with fail
  refine (copyInts_any _ facts w1 (HR.out.2.1.below (Below.step HB1.out H1.out.2))).mono ?_
  rintro e w2 ⟨u2, rfl, own2, bel2⟩
  have H2 : Hid (Rds w2 (.slice a1 css.length c1) css ∧ Rd w2 u2 facts ∧ Below W0.heap.size W0 w2) := ⟨H1.out.1.below bel2, own2.rd (by have := H8.out.2.2.1; omega), Below.step H1.out.2 bel2⟩
  obtain ⟨a2, c2, e2⟩ := own_form own2
  subst e2
  clear own2 bel2 H1
  go_wp2_with fail
  refine (uClose_any n _ _ css facts w2 H2.out.1 H2.out.2.1 HR.out.2.2.2.2 (HR.out.2.2.2.1.below (Below.step HB1.out H2.out.2.2))).mono ?_
  rintro e w3 ⟨u3, cl3, D, rfl, cz3⟩
  have hlD := clz_lenO cz3
  have H3 : Hid (Own W0.heap.size w3 u3 D ∧ Below W0.heap.size W0 w3 ∧ (cloE n css facts = 0 → Says6 css facts cl3 D) ∧ (cloE n css facts ≠ 0 → cl3 = false ∧ D = [])) := ⟨cz3.own.mono H2.out.2.2.size, Below.step H2.out.2.2 cz3.bel, cz3.yes, cz3.no⟩
  have HLD : Hid (D.length ≤ 2097152) := hlD
  obtain ⟨a3, c3, e3⟩ := own_form cz3.own
  subst e3
  obtain ⟨k0, k1⟩ := HX0.out w3 H3.out.2.1
  clear cz3 H2 hlD
  generalize hE : cloE n css facts = E at *
  have HE : Hid (cloE n css facts = E) := hE
  clear hE
  go_wp2_with fail
  refine (shaped6_any n _ css w3 (HR.out.1.below (Below.step HB1.out H3.out.2.1))).mono ?_
  rintro e w4 ⟨rfl, bel4⟩
  have H4 : Hid (Below W0.heap.size W0 w4 ∧ Own W0.heap.size w4 (.slice a3 D.length c3) D) := ⟨Below.step H3.out.2.1 bel4, H3.out.1.below bel4⟩
  clear bel4 k0 k1
  cases hfm : frm n css
  · obtain rfl : 1 = E := by rw [← HE.out]; unfold cloE; rw [hfm]; rfl
    obtain ⟨rfl, rfl⟩ := H3.out.2.2.2 (by decide)
    clear hfm
    go_wp2_with fail
    refine (HAw.out w4 (Below.step HB1.out H4.out.1)).mono ?_
    rintro e w9 ⟨rfl, bel9⟩
    have HF : Hid (Below w.heap.size w w9) := bel9
    clear bel9
    go_wp2
    go_ret
    exact ⟨rfl, HF.out⟩
  · have HFm : Hid (frm n css = true) := hfm
    have hn : 0 ≤ n ∧ n ≤ 1048576 := by
      unfold frm at hfm
      rw [Bool.and_eq_true] at hfm
      exact of_decide_eq_true hfm.1
    go_wp2_with fail
    refine (within6_any _ facts 1048576 w4 (HR.out.2.1.below (Below.step HB1.out H4.out.1)) (by decide) (by decide)).mono ?_
    rintro e w5 ⟨rfl, hw5⟩
    obtain rfl : w4 = w5 := hw5.symm
    rw [fits_all]
    clear hw5
    cases hsd : facts.all fmd
    · obtain rfl : 1 = E := by rw [← HE.out]; unfold cloE; rw [hfm, hsd]; rfl
      obtain ⟨rfl, rfl⟩ := H3.out.2.2.2 (by decide)
      clear hfm hsd
      go_wp2_with fail
      refine (HAw.out w4 (Below.step HB1.out H4.out.1)).mono ?_
      rintro e w9 ⟨rfl, bel9⟩
      have HF : Hid (Below w.heap.size w w9) := bel9
      clear bel9
      go_wp2
      go_ret
      exact ⟨rfl, HF.out⟩
    · have HSd : Hid (facts.all fmd = true) := hsd
      obtain rfl : 0 = E := by rw [← HE.out]; unfold cloE; rw [hfm, hsd]; rfl
      have HS : Hid (Says6 css facts cl3 D) := H3.out.2.2.1 rfl
      obtain ⟨k0, k1⟩ := HX0.out w4 H4.out.1
      obtain ⟨i0, hi0, hz0, hz1, hz2⟩ := info_parts Tryd.info3
      obtain ⟨il, hil, hzl0, hzl1, hzl2⟩ := info_parts infoLo
      have r4 : (w4.alloc (.cells #[.int .i64 n, .slice none 0 0] 24)).cell? ⟨w.heap.size, 1, none⟩ = some (.slice sa css.length sc) := ((below_box w4 _).cell (p := ⟨w.heap.size, 1, none⟩) (World.block_lt_of_cell? w4 _ k1)).trans k1
      have HX4 : Hid (∀ W, Below w4.heap.size w4 W → W.cell? ⟨w.heap.size, 0, none⟩ = some (.int .i64 n) ∧ W.cell? ⟨w.heap.size, 1, none⟩ = some (.slice sa css.length sc)) := fun W hW => HX0.out W (Below.step H4.out.1 hW)
      have HBw : Hid (∀ W, Below w4.heap.size w4 W → Below w.heap.size w W) := fun W hW => Below.step HB1.out (Below.step H4.out.1 hW)
      clear hfm hsd H3 HX0
      go_wp2_with fail
      go_quiet (fail)
      go_wp2_with fail
      clear k0 k1 r4
      go_loopg [11, 12, 13] css.length (fun g fv tv kv wq => ∃ (f t k : Nat) (L : List Cls) (rv : Value), f + g = t ∧ k + g = css.length ∧ fv = .int .i64 f ∧ tv = .int .i64 t ∧ kv = .int .i64 k ∧ t ≤ css.length ∧ L.length = k ∧ Hid (Od css (L.map Prod.snd) f t) ∧ Hid (Bd w4 n wq rv L))
      case atStart => exact ⟨0, css.length, 0, [], _, by omega, by omega, rfl, rfl, rfl, Nat.le_refl _, rfl, Od.start css, by first | exact Bd.start _ _ | exact (Bd.start _ _).on (below_drewN _ _)⟩
      case round =>
        obtain ⟨f, t, k, L, rv, hft, hk, rfl, rfl, rfl, htl, hLk, HO, HB⟩ := hrel
        have HK : Hid (f + gk = t ∧ k + gk = css.length) := ⟨hft, hk⟩
        have HLk : Hid (L.length = k) := hLk
        have hLc : L.length ≤ 1048576 := by omega
        have hkc : k ≤ 1048576 := by omega
        have htc : t ≤ 1048576 := by omega
        have hfc0 : f ≤ t := by omega
        obtain ⟨x0, x1⟩ := HX4.out wr HB.out.bel
        have HRs : Hid (Rds wr (.slice sa css.length sc) css) := HR.out.1.below (HBw.out wr HB.out.bel)
        have sz := HB.out.bel.size
        clear hLk
        by_cases hlt : f < t
        · have HLT : Hid (f < t) := hlt
          by_cases hks : k < ms.length
          · obtain ⟨am', cm', em, hcm⟩ := (HR.out.2.2.1.below (HBw.out wr HB.out.bel)).form
            injection em with em1 _ em3
            subst em1; subst em3
            obtain ⟨mb, mo, rfl, hck⟩ := hcm k hks
            clear hcm
            generalize ms.getD k false = sd at *
            cases sd
            · have hat : f < css.length := by omega
              obtain ⟨b, off, u, rfl, hcz, hu0⟩ : ∃ b off u, sa = some ⟨b, off, none⟩ ∧ wr.cell? ⟨b, off + f, none⟩ = some u ∧ Rd wr u (css.getD f []) := by
                obtain ⟨sa', sc', es, _, _, hcell⟩ := HRs.out.form
                injection es with es1 _ es3
                subst es1; subst es3
                exact hcell f hat
              have HO2 : Hid (Od css (L.map Prod.snd ++ [twist (css.getD f [])]) (f + 1) t) := HO.out.front hlt
              have HUz : Hid (Rd wr u (css.getD f [])) := hu0
              have hzl := hu0.len
              obtain ⟨_, ua, uc, hu, huc, hum, _⟩ := hu0
              have HCZ : Hid (wr.cell? ⟨b, off + f, none⟩ = some u) := hcz
              have HBb : Hid (b < wr.heap.size) := World.block_lt_of_cell? wr _ hcz
              have hzm : (css.getD f []).length ≤ 1048576 := Nat.le_trans (lsum_mem (getD_mem' hat)) H8.out.2.2.2.2
              clear HO hk hft hat
              generalize css.getD f [] = z at *
              subst hu
              generalize gk = gg at *
              generalize wr = wo at *
              have ez : wrap64 ((z.length : Int) - 1) = (z.length : Int) - 1 := by unfold wrap64; omega
              go_wp2
              clear x0 x1 hcz
              go_loopg [15, 16] z.length (fun g lv jv wi => ∃ (m : Nat) (i : Int), m = g ∧ i + 1 = m ∧ m ≤ z.length ∧ jv = .int .i64 i ∧ Own wo.heap.size wi lv (z.drop m).reverse ∧ Below wo.heap.size wo wi)
              case atStart => exact ⟨z.length, (z.length : Int) - 1, rfl, by omega, Nat.le_refl _, by first | rfl | go_num, by rw [List.drop_length]; exact World.ownsRow_nil _ _ _ _, Below.refl _ _⟩
              case round =>
                obtain ⟨m, i, hm, hi, hmz, rfl, own, bel⟩ := hrel
                have HM2 : Hid (m = gk) := hm
                have hlk : (z.drop m).reverse.length ≤ 1048576 := by simp; omega
                have y1 := (HX4.out wr (Below.step HB.out.bel bel)).2
                have hs := bel.size
                have hck2 : wr.cell? ⟨b, off + f, none⟩ = some (.slice ua z.length uc) := (bel.cell (p := ⟨b, off + f, none⟩) HBb.out).trans HCZ.out
                clear hm
                by_cases hi0' : 0 ≤ i
                · obtain ⟨j, rfl⟩ : ∃ j : Nat, i = (j : Int) := ⟨i.toNat, by omega⟩
                  obtain rfl : m = j + 1 := by omega
                  obtain ⟨ua', uc', eu, _, _, hcell⟩ := (HUz.out.below bel).form
                  injection eu with q1 _ q3
                  subst q1; subst q3
                  have hjz : j < z.length := by omega
                  obtain ⟨bu, ou, rfl, hcm⟩ := hcell j hjz
                  have HRv : Hid ((z.drop j).reverse = (z.drop (j + 1)).reverse ++ [z.getD j 0]) := drop_rev hjz
                  clear hcell hi
                  generalize (z.drop (j + 1)).reverse = out at *
                  generalize z.getD j 0 = l at *
                  have ej : wrap64 ((j : Int) - 1) = (j : Int) - 1 := by unfold wrap64; omega
                  go_wp2_with (at_builtin; refine wpList_append_own _ rfl _ _ 25 rfl wo.heap.size 3 i0 (.int .i64 0) 1 8 Tryd.underlying25 hi0 hz0 hz1 hz2 rfl (by decide) _ out.length (out.map (Value.int .i64)) rfl (World.ownsRow.alloc own _) _ 1 1 [.int .i64 l] rfl rfl (cell_one_new _ _ _) (by simp [Value.oneCell']) (by unfold maxLen; omega) (by omega) (by simp; omega) ?_; intro v2 w2' own2 gr2 hn2)
                  go_roundg (gk - 1)
                  case measure => have := HM2.out; omega
                  case rel => exact ⟨j, (j : Int) - 1, by have := HM2.out; omega, by omega, by omega, by first | rfl | go_num, by rw [HRv.out]; exact own_onemore6 own2, (bel.alloc hs _).grown gr2 (by simp; omega) (fun j hj => (own.lt j hj).1)⟩
                · obtain rfl : m = 0 := by omega
                  obtain rfl : i = -1 := by omega
                  clear hi0' hi
                  rw [List.drop_zero] at own hlk
                  obtain ⟨a5, c5, hu5⟩ := own_form own
                  subst hu5
                  have HOw : Hid (Own wo.heap.size wr (.slice a5 z.reverse.length c5) z.reverse) := own
                  have BL5 : Hid (Below wo.heap.size wo wr) := bel
                  have d0 := (HB.out.on bel).box.c0
                  have d1 := (HB.out.on bel).box.c1
                  by_cases hz : z.reverse = []
                  · have HTw : Hid (twist z = []) := by
                      have : z = [] := by simpa using hz
                      rw [this]; rfl
                    rw [hz] at HOw
                    have HM : Hid (Own wo.heap.size wr (.slice a5 [].length c5) []) := HOw.out
                    have B5 : Hid (Bd w4 n wr rv L) := HB.out.on bel
                    clear own bel HOw hlk
                    go_wp2_with (at_builtin; refine wpList_append_own _ rfl _ _ 22 rfl w4.heap.size 25 il (.slice none 0 0) 1 24 Tryd.underlying22 hil hzl0 hzl1 hzl2 rfl (by decide) _ L.length (L.map Prod.fst) rfl (B5.out.row_alloc _) _ 1 1 [.slice a5 0 c5] rfl rfl (cell_one_new _ _ _) (by simp [Value.oneCell']) (by unfold maxLen; omega) (by omega) (by simp; omega) ?_; intro v6 w6 own6 gr6 hn6; obtain ⟨a6, c6, hv6⟩ := row_form own6; subst hv6; have A6 : Hid (Bx2 w6 w4.heap.size 24 (.int .i64 n) rv ∧ Bd w4 n (w6.setCell ⟨w4.heap.size, 1, none⟩ (.slice a6 (L.length + 1) c6)) (.slice a6 (L.length + 1) c6) (L ++ [(.slice a5 0 c5, [])])) := HB.out.app BL5.out HM.out own6 gr6; have g0 := A6.out.1.c0; have g1 := A6.out.1.c1; have g2 := A6.out.1.f1)
                    go_roundg (gg - 1)
                    case measure => have := HK.out; have := HLT.out; omega
                    case rel => exact ⟨(f + 1), t, k + 1, L ++ [(Value.slice a5 0 c5, [])], Value.slice a6 (L.length + 1) c6, by have := HK.out; have := HLT.out; omega, by have := HK.out; have := HLT.out; omega, by go_num, by first | rfl | go_num, by go_num, by omega, by have := HLk.out; simp; omega, by rw [List.map_append]; have := HO2.out; rw [HTw.out] at this; exact this, A6.out.2⟩
                  · have HTw : Hid (twist z = z.reverse ++ [z.reverse.getD 0 0]) := twist_cons (by simpa using hz)
                    have hpos : 0 < z.reverse.length := List.length_pos_iff.2 hz
                    have hll : z.reverse.length = z.length := List.length_reverse
                    clear d0 d1
                    generalize z.reverse = zr at *
                    obtain ⟨ax, cx, ex, _, _, hcx⟩ := (own.rd (by omega)).form
                    injection ex with ex1 _ ex3
                    subst ex1; subst ex3
                    obtain ⟨bz, oz, rfl, kz⟩ := hcx 0 hpos
                    have kz' : wr.cell? ⟨bz, oz, none⟩ = some (.int .i64 (zr.getD 0 0)) := kz
                    clear hcx hll kz
                    generalize zr.getD 0 0 = l at *
                    have B5 : Hid (Bd w4 n wr rv L) := HB.out.on bel
                    have hwo : wo.heap.size ≤ wr.heap.size := bel.size
                    have hw4 : w4.heap.size ≤ wo.heap.size := sz
                    clear bel hz
                    have K7 : Hid (∀ v2 w2', w2'.ownsRow wo.heap.size 3 1 v2 (zr.length + 1) (zr.map (Value.int .i64) ++ [.int .i64 l]) → (wr.alloc (.cells #[.int .i64 l] 3)).grownBy w2' (Value.slice (some ⟨bz, oz, none⟩) zr.length c5).ownBlock → Below wo.heap.size wo w2' ∧ Below w4.heap.size w4 w2') := fun v2 w2' own2 gr2 => by
                      have h1 : Below wo.heap.size wo w2' := (BL5.out.alloc hwo _).grown gr2 (by simp; omega) (fun j hj => (HOw.out.lt j hj).1)
                      exact ⟨h1, Below.step HB.out.bel h1⟩
                    go_wp2_with (first
                      | (have h7 := O7; clear h7; at_builtin; refine wpList_append_own _ rfl _ _ 22 rfl w4.heap.size 25 il (.slice none 0 0) 1 24 Tryd.underlying22 hil hzl0 hzl1 hzl2 rfl (by decide) _ L.length (L.map Prod.fst) rfl (B7.out.row_alloc _) _ 1 1 [.slice a7 (zr.length + 1) c7] rfl rfl (cell_one_new _ _ _) (by simp [Value.oneCell']) (by unfold maxLen; omega) (by omega) (by simp; omega) ?_; intro v6 w6 own6 gr6 hn6; obtain ⟨a6, c6, hv6⟩ := row_form own6; subst hv6; have A6 : Hid (Bx2 w6 w4.heap.size 24 (.int .i64 n) rv ∧ Bd w4 n (w6.setCell ⟨w4.heap.size, 1, none⟩ (.slice a6 (L.length + 1) c6)) (.slice a6 (L.length + 1) c6) (L ++ [(.slice a7 (zr.length + 1) c7, zr ++ [l])])) := HB.out.app O7.out.2 O7.out.1 own6 gr6; have g0 := A6.out.1.c0; have g1 := A6.out.1.c1; have g2 := A6.out.1.f1)
                      | (at_builtin; refine wpList_append_own _ rfl _ _ 25 rfl wo.heap.size 3 i0 (.int .i64 0) 1 8 Tryd.underlying25 hi0 hz0 hz1 hz2 rfl (by decide) _ zr.length (zr.map (Value.int .i64)) rfl (World.ownsRow.alloc own _) _ 1 1 [.int .i64 l] rfl rfl (cell_one_new _ _ _) (by simp [Value.oneCell']) (by unfold maxLen; omega) (by omega) (by simp; omega) ?_; intro v2 w2' own2 gr2 hn2; obtain ⟨a7, c7, hv7⟩ := row_form own2; subst hv7; have O7 : Hid (Own wo.heap.size w2' (.slice a7 (zr.length + 1) c7) (zr ++ [l]) ∧ Below wo.heap.size wo w2') := ⟨own_onemore6 own2, (K7.out _ _ own2 gr2).1⟩; have B7 : Hid (Bd w4 n w2' rv L) := HB.out.on O7.out.2; have hw7 : w4.heap.size ≤ w2'.heap.size := (K7.out _ _ own2 gr2).2.size; have d1 := B7.out.box.c1; have d2 := (B7.out.on (below_box w2' (.cells #[.slice a7 (zr.length + 1) c7] 25))).box.c1; clear own2 gr2 hn2))
                    go_roundg (gg - 1)
                    case measure => have := HK.out; have := HLT.out; omega
                    case rel => exact ⟨(f + 1), t, k + 1, L ++ [(Value.slice a7 (zr.length + 1) c7, zr ++ [l])], Value.slice a6 (L.length + 1) c6, by have := HK.out; have := HLT.out; omega, by have := HK.out; have := HLT.out; omega, by go_num, by first | rfl | go_num, by go_num, by omega, by have := HLk.out; simp; omega, by rw [List.map_append]; have := HO2.out; rw [HTw.out] at this; exact this, A6.out.2⟩
            · obtain ⟨t1, rfl⟩ : ∃ t1, t = t1 + 1 := ⟨t - 1, by omega⟩
              have hat : t1 < css.length := by omega
              have et : wrap64 (((t1 + 1 : Nat) : Int) - 1) = (t1 : Int) := by unfold wrap64; omega
              have et' : wrap64 ((t1 : Int) + 1 - 1) = (t1 : Int) := by unfold wrap64; omega
              obtain ⟨b, off, u, rfl, hcz, hu0⟩ : ∃ b off u, sa = some ⟨b, off, none⟩ ∧ wr.cell? ⟨b, off + t1, none⟩ = some u ∧ Rd wr u (css.getD t1 []) := by
                obtain ⟨sa', sc', es, _, _, hcell⟩ := HRs.out.form
                injection es with es1 _ es3
                subst es1; subst es3
                exact hcell t1 hat
              have HO2 : Hid (Od css (L.map Prod.snd ++ [twist (css.getD t1 [])]) f t1) := HO.out.back hlt
              have HUz : Hid (Rd wr u (css.getD t1 [])) := hu0
              have hzl := hu0.len
              obtain ⟨_, ua, uc, hu, huc, hum, _⟩ := hu0
              have HCZ : Hid (wr.cell? ⟨b, off + t1, none⟩ = some u) := hcz
              have HBb : Hid (b < wr.heap.size) := World.block_lt_of_cell? wr _ hcz
              have hzm : (css.getD t1 []).length ≤ 1048576 := Nat.le_trans (lsum_mem (getD_mem' hat)) H8.out.2.2.2.2
              clear HO hk hft hat
              generalize css.getD t1 [] = z at *
              subst hu
              generalize gk = gg at *
              generalize wr = wo at *
              have ez : wrap64 ((z.length : Int) - 1) = (z.length : Int) - 1 := by unfold wrap64; omega
              go_wp2
              clear x0 x1 hcz
              go_loopg [15, 16] z.length (fun g lv jv wi => ∃ (m : Nat) (i : Int), m = g ∧ i + 1 = m ∧ m ≤ z.length ∧ jv = .int .i64 i ∧ Own wo.heap.size wi lv (z.drop m).reverse ∧ Below wo.heap.size wo wi)
              case atStart => exact ⟨z.length, (z.length : Int) - 1, rfl, by omega, Nat.le_refl _, by first | rfl | go_num, by rw [List.drop_length]; exact World.ownsRow_nil _ _ _ _, Below.refl _ _⟩
              case round =>
                obtain ⟨m, i, hm, hi, hmz, rfl, own, bel⟩ := hrel
                have HM2 : Hid (m = gk) := hm
                have hlk : (z.drop m).reverse.length ≤ 1048576 := by simp; omega
                have y1 := (HX4.out wr (Below.step HB.out.bel bel)).2
                have hs := bel.size
                have hck2 : wr.cell? ⟨b, off + t1, none⟩ = some (.slice ua z.length uc) := (bel.cell (p := ⟨b, off + t1, none⟩) HBb.out).trans HCZ.out
                clear hm
                by_cases hi0' : 0 ≤ i
                · obtain ⟨j, rfl⟩ : ∃ j : Nat, i = (j : Int) := ⟨i.toNat, by omega⟩
                  obtain rfl : m = j + 1 := by omega
                  obtain ⟨ua', uc', eu, _, _, hcell⟩ := (HUz.out.below bel).form
                  injection eu with q1 _ q3
                  subst q1; subst q3
                  have hjz : j < z.length := by omega
                  obtain ⟨bu, ou, rfl, hcm⟩ := hcell j hjz
                  have HRv : Hid ((z.drop j).reverse = (z.drop (j + 1)).reverse ++ [z.getD j 0]) := drop_rev hjz
                  clear hcell hi
                  generalize (z.drop (j + 1)).reverse = out at *
                  generalize z.getD j 0 = l at *
                  have ej : wrap64 ((j : Int) - 1) = (j : Int) - 1 := by unfold wrap64; omega
                  go_wp2_with (at_builtin; refine wpList_append_own _ rfl _ _ 25 rfl wo.heap.size 3 i0 (.int .i64 0) 1 8 Tryd.underlying25 hi0 hz0 hz1 hz2 rfl (by decide) _ out.length (out.map (Value.int .i64)) rfl (World.ownsRow.alloc own _) _ 1 1 [.int .i64 l] rfl rfl (cell_one_new _ _ _) (by simp [Value.oneCell']) (by unfold maxLen; omega) (by omega) (by simp; omega) ?_; intro v2 w2' own2 gr2 hn2)
                  go_roundg (gk - 1)
                  case measure => have := HM2.out; omega
                  case rel => exact ⟨j, (j : Int) - 1, by have := HM2.out; omega, by omega, by omega, by first | rfl | go_num, by rw [HRv.out]; exact own_onemore6 own2, (bel.alloc hs _).grown gr2 (by simp; omega) (fun j hj => (own.lt j hj).1)⟩
                · obtain rfl : m = 0 := by omega
                  obtain rfl : i = -1 := by omega
                  clear hi0' hi
                  rw [List.drop_zero] at own hlk
                  obtain ⟨a5, c5, hu5⟩ := own_form own
                  subst hu5
                  have HOw : Hid (Own wo.heap.size wr (.slice a5 z.reverse.length c5) z.reverse) := own
                  have BL5 : Hid (Below wo.heap.size wo wr) := bel
                  have d0 := (HB.out.on bel).box.c0
                  have d1 := (HB.out.on bel).box.c1
                  by_cases hz : z.reverse = []
                  · have HTw : Hid (twist z = []) := by
                      have : z = [] := by simpa using hz
                      rw [this]; rfl
                    rw [hz] at HOw
                    have HM : Hid (Own wo.heap.size wr (.slice a5 [].length c5) []) := HOw.out
                    have B5 : Hid (Bd w4 n wr rv L) := HB.out.on bel
                    clear own bel HOw hlk
                    go_wp2_with (at_builtin; refine wpList_append_own _ rfl _ _ 22 rfl w4.heap.size 25 il (.slice none 0 0) 1 24 Tryd.underlying22 hil hzl0 hzl1 hzl2 rfl (by decide) _ L.length (L.map Prod.fst) rfl (B5.out.row_alloc _) _ 1 1 [.slice a5 0 c5] rfl rfl (cell_one_new _ _ _) (by simp [Value.oneCell']) (by unfold maxLen; omega) (by omega) (by simp; omega) ?_; intro v6 w6 own6 gr6 hn6; obtain ⟨a6, c6, hv6⟩ := row_form own6; subst hv6; have A6 : Hid (Bx2 w6 w4.heap.size 24 (.int .i64 n) rv ∧ Bd w4 n (w6.setCell ⟨w4.heap.size, 1, none⟩ (.slice a6 (L.length + 1) c6)) (.slice a6 (L.length + 1) c6) (L ++ [(.slice a5 0 c5, [])])) := HB.out.app BL5.out HM.out own6 gr6; have g0 := A6.out.1.c0; have g1 := A6.out.1.c1; have g2 := A6.out.1.f1)
                    go_roundg (gg - 1)
                    case measure => have := HK.out; have := HLT.out; omega
                    case rel => exact ⟨f, t1, k + 1, L ++ [(Value.slice a5 0 c5, [])], Value.slice a6 (L.length + 1) c6, by have := HK.out; have := HLT.out; omega, by have := HK.out; have := HLT.out; omega, by go_num, by first | rfl | go_num, by go_num, by omega, by have := HLk.out; simp; omega, by rw [List.map_append]; have := HO2.out; rw [HTw.out] at this; exact this, A6.out.2⟩
                  · have HTw : Hid (twist z = z.reverse ++ [z.reverse.getD 0 0]) := twist_cons (by simpa using hz)
                    have hpos : 0 < z.reverse.length := List.length_pos_iff.2 hz
                    have hll : z.reverse.length = z.length := List.length_reverse
                    clear d0 d1
                    generalize z.reverse = zr at *
                    obtain ⟨ax, cx, ex, _, _, hcx⟩ := (own.rd (by omega)).form
                    injection ex with ex1 _ ex3
                    subst ex1; subst ex3
                    obtain ⟨bz, oz, rfl, kz⟩ := hcx 0 hpos
                    have kz' : wr.cell? ⟨bz, oz, none⟩ = some (.int .i64 (zr.getD 0 0)) := kz
                    clear hcx hll kz
                    generalize zr.getD 0 0 = l at *
                    have B5 : Hid (Bd w4 n wr rv L) := HB.out.on bel
                    have hwo : wo.heap.size ≤ wr.heap.size := bel.size
                    have hw4 : w4.heap.size ≤ wo.heap.size := sz
                    clear bel hz
                    have K7 : Hid (∀ v2 w2', w2'.ownsRow wo.heap.size 3 1 v2 (zr.length + 1) (zr.map (Value.int .i64) ++ [.int .i64 l]) → (wr.alloc (.cells #[.int .i64 l] 3)).grownBy w2' (Value.slice (some ⟨bz, oz, none⟩) zr.length c5).ownBlock → Below wo.heap.size wo w2' ∧ Below w4.heap.size w4 w2') := fun v2 w2' own2 gr2 => by
                      have h1 : Below wo.heap.size wo w2' := (BL5.out.alloc hwo _).grown gr2 (by simp; omega) (fun j hj => (HOw.out.lt j hj).1)
                      exact ⟨h1, Below.step HB.out.bel h1⟩
                    go_wp2_with (first
                      | (have h7 := O7; clear h7; at_builtin; refine wpList_append_own _ rfl _ _ 22 rfl w4.heap.size 25 il (.slice none 0 0) 1 24 Tryd.underlying22 hil hzl0 hzl1 hzl2 rfl (by decide) _ L.length (L.map Prod.fst) rfl (B7.out.row_alloc _) _ 1 1 [.slice a7 (zr.length + 1) c7] rfl rfl (cell_one_new _ _ _) (by simp [Value.oneCell']) (by unfold maxLen; omega) (by omega) (by simp; omega) ?_; intro v6 w6 own6 gr6 hn6; obtain ⟨a6, c6, hv6⟩ := row_form own6; subst hv6; have A6 : Hid (Bx2 w6 w4.heap.size 24 (.int .i64 n) rv ∧ Bd w4 n (w6.setCell ⟨w4.heap.size, 1, none⟩ (.slice a6 (L.length + 1) c6)) (.slice a6 (L.length + 1) c6) (L ++ [(.slice a7 (zr.length + 1) c7, zr ++ [l])])) := HB.out.app O7.out.2 O7.out.1 own6 gr6; have g0 := A6.out.1.c0; have g1 := A6.out.1.c1; have g2 := A6.out.1.f1)
                      | (at_builtin; refine wpList_append_own _ rfl _ _ 25 rfl wo.heap.size 3 i0 (.int .i64 0) 1 8 Tryd.underlying25 hi0 hz0 hz1 hz2 rfl (by decide) _ zr.length (zr.map (Value.int .i64)) rfl (World.ownsRow.alloc own _) _ 1 1 [.int .i64 l] rfl rfl (cell_one_new _ _ _) (by simp [Value.oneCell']) (by unfold maxLen; omega) (by omega) (by simp; omega) ?_; intro v2 w2' own2 gr2 hn2; obtain ⟨a7, c7, hv7⟩ := row_form own2; subst hv7; have O7 : Hid (Own wo.heap.size w2' (.slice a7 (zr.length + 1) c7) (zr ++ [l]) ∧ Below wo.heap.size wo w2') := ⟨own_onemore6 own2, (K7.out _ _ own2 gr2).1⟩; have B7 : Hid (Bd w4 n w2' rv L) := HB.out.on O7.out.2; have hw7 : w4.heap.size ≤ w2'.heap.size := (K7.out _ _ own2 gr2).2.size; have d1 := B7.out.box.c1; have d2 := (B7.out.on (below_box w2' (.cells #[.slice a7 (zr.length + 1) c7] 25))).box.c1; clear own2 gr2 hn2))
                    go_roundg (gg - 1)
                    case measure => have := HK.out; have := HLT.out; omega
                    case rel => exact ⟨f, t1, k + 1, L ++ [(Value.slice a7 (zr.length + 1) c7, zr ++ [l])], Value.slice a6 (L.length + 1) c6, by have := HK.out; have := HLT.out; omega, by have := HK.out; have := HLT.out; omega, by go_num, by first | rfl | go_num, by go_num, by omega, by have := HLk.out; simp; omega, by rw [List.map_append]; have := HO2.out; rw [HTw.out] at this; exact this, A6.out.2⟩
          · have hat : f < css.length := by omega
            obtain ⟨b, off, u, rfl, hcz, hu0⟩ : ∃ b off u, sa = some ⟨b, off, none⟩ ∧ wr.cell? ⟨b, off + f, none⟩ = some u ∧ Rd wr u (css.getD f []) := by
              obtain ⟨sa', sc', es, _, _, hcell⟩ := HRs.out.form
              injection es with es1 _ es3
              subst es1; subst es3
              exact hcell f hat
            have HO2 : Hid (Od css (L.map Prod.snd ++ [twist (css.getD f [])]) (f + 1) t) := HO.out.front hlt
            have HUz : Hid (Rd wr u (css.getD f [])) := hu0
            have hzl := hu0.len
            obtain ⟨_, ua, uc, hu, huc, hum, _⟩ := hu0
            have HCZ : Hid (wr.cell? ⟨b, off + f, none⟩ = some u) := hcz
            have HBb : Hid (b < wr.heap.size) := World.block_lt_of_cell? wr _ hcz
            have hzm : (css.getD f []).length ≤ 1048576 := Nat.le_trans (lsum_mem (getD_mem' hat)) H8.out.2.2.2.2
            clear HO hk hft hat
            generalize css.getD f [] = z at *
            subst hu
            generalize gk = gg at *
            generalize wr = wo at *
            have ez : wrap64 ((z.length : Int) - 1) = (z.length : Int) - 1 := by unfold wrap64; omega
            go_wp2
            clear x0 x1 hcz
            go_loopg [15, 16] z.length (fun g lv jv wi => ∃ (m : Nat) (i : Int), m = g ∧ i + 1 = m ∧ m ≤ z.length ∧ jv = .int .i64 i ∧ Own wo.heap.size wi lv (z.drop m).reverse ∧ Below wo.heap.size wo wi)
            case atStart => exact ⟨z.length, (z.length : Int) - 1, rfl, by omega, Nat.le_refl _, by first | rfl | go_num, by rw [List.drop_length]; exact World.ownsRow_nil _ _ _ _, Below.refl _ _⟩
            case round =>
              obtain ⟨m, i, hm, hi, hmz, rfl, own, bel⟩ := hrel
              have HM2 : Hid (m = gk) := hm
              have hlk : (z.drop m).reverse.length ≤ 1048576 := by simp; omega
              have y1 := (HX4.out wr (Below.step HB.out.bel bel)).2
              have hs := bel.size
              have hck2 : wr.cell? ⟨b, off + f, none⟩ = some (.slice ua z.length uc) := (bel.cell (p := ⟨b, off + f, none⟩) HBb.out).trans HCZ.out
              clear hm
              by_cases hi0' : 0 ≤ i
              · obtain ⟨j, rfl⟩ : ∃ j : Nat, i = (j : Int) := ⟨i.toNat, by omega⟩
                obtain rfl : m = j + 1 := by omega
                obtain ⟨ua', uc', eu, _, _, hcell⟩ := (HUz.out.below bel).form
                injection eu with q1 _ q3
                subst q1; subst q3
                have hjz : j < z.length := by omega
                obtain ⟨bu, ou, rfl, hcm⟩ := hcell j hjz
                have HRv : Hid ((z.drop j).reverse = (z.drop (j + 1)).reverse ++ [z.getD j 0]) := drop_rev hjz
                clear hcell hi
                generalize (z.drop (j + 1)).reverse = out at *
                generalize z.getD j 0 = l at *
                have ej : wrap64 ((j : Int) - 1) = (j : Int) - 1 := by unfold wrap64; omega
                go_wp2_with (at_builtin; refine wpList_append_own _ rfl _ _ 25 rfl wo.heap.size 3 i0 (.int .i64 0) 1 8 Tryd.underlying25 hi0 hz0 hz1 hz2 rfl (by decide) _ out.length (out.map (Value.int .i64)) rfl (World.ownsRow.alloc own _) _ 1 1 [.int .i64 l] rfl rfl (cell_one_new _ _ _) (by simp [Value.oneCell']) (by unfold maxLen; omega) (by omega) (by simp; omega) ?_; intro v2 w2' own2 gr2 hn2)
                go_roundg (gk - 1)
                case measure => have := HM2.out; omega
                case rel => exact ⟨j, (j : Int) - 1, by have := HM2.out; omega, by omega, by omega, by first | rfl | go_num, by rw [HRv.out]; exact own_onemore6 own2, (bel.alloc hs _).grown gr2 (by simp; omega) (fun j hj => (own.lt j hj).1)⟩
              · obtain rfl : m = 0 := by omega
                obtain rfl : i = -1 := by omega
                clear hi0' hi
                rw [List.drop_zero] at own hlk
                obtain ⟨a5, c5, hu5⟩ := own_form own
                subst hu5
                have HOw : Hid (Own wo.heap.size wr (.slice a5 z.reverse.length c5) z.reverse) := own
                have BL5 : Hid (Below wo.heap.size wo wr) := bel
                have d0 := (HB.out.on bel).box.c0
                have d1 := (HB.out.on bel).box.c1
                by_cases hz : z.reverse = []
                · have HTw : Hid (twist z = []) := by
                    have : z = [] := by simpa using hz
                    rw [this]; rfl
                  rw [hz] at HOw
                  have HM : Hid (Own wo.heap.size wr (.slice a5 [].length c5) []) := HOw.out
                  have B5 : Hid (Bd w4 n wr rv L) := HB.out.on bel
                  clear own bel HOw hlk
                  go_wp2_with (at_builtin; refine wpList_append_own _ rfl _ _ 22 rfl w4.heap.size 25 il (.slice none 0 0) 1 24 Tryd.underlying22 hil hzl0 hzl1 hzl2 rfl (by decide) _ L.length (L.map Prod.fst) rfl (B5.out.row_alloc _) _ 1 1 [.slice a5 0 c5] rfl rfl (cell_one_new _ _ _) (by simp [Value.oneCell']) (by unfold maxLen; omega) (by omega) (by simp; omega) ?_; intro v6 w6 own6 gr6 hn6; obtain ⟨a6, c6, hv6⟩ := row_form own6; subst hv6; have A6 : Hid (Bx2 w6 w4.heap.size 24 (.int .i64 n) rv ∧ Bd w4 n (w6.setCell ⟨w4.heap.size, 1, none⟩ (.slice a6 (L.length + 1) c6)) (.slice a6 (L.length + 1) c6) (L ++ [(.slice a5 0 c5, [])])) := HB.out.app BL5.out HM.out own6 gr6; have g0 := A6.out.1.c0; have g1 := A6.out.1.c1; have g2 := A6.out.1.f1)
                  go_roundg (gg - 1)
                  case measure => have := HK.out; have := HLT.out; omega
                  case rel => exact ⟨(f + 1), t, k + 1, L ++ [(Value.slice a5 0 c5, [])], Value.slice a6 (L.length + 1) c6, by have := HK.out; have := HLT.out; omega, by have := HK.out; have := HLT.out; omega, by go_num, by first | rfl | go_num, by go_num, by omega, by have := HLk.out; simp; omega, by rw [List.map_append]; have := HO2.out; rw [HTw.out] at this; exact this, A6.out.2⟩
                · have HTw : Hid (twist z = z.reverse ++ [z.reverse.getD 0 0]) := twist_cons (by simpa using hz)
                  have hpos : 0 < z.reverse.length := List.length_pos_iff.2 hz
                  have hll : z.reverse.length = z.length := List.length_reverse
                  clear d0 d1
                  generalize z.reverse = zr at *
                  obtain ⟨ax, cx, ex, _, _, hcx⟩ := (own.rd (by omega)).form
                  injection ex with ex1 _ ex3
                  subst ex1; subst ex3
                  obtain ⟨bz, oz, rfl, kz⟩ := hcx 0 hpos
                  have kz' : wr.cell? ⟨bz, oz, none⟩ = some (.int .i64 (zr.getD 0 0)) := kz
                  clear hcx hll kz
                  generalize zr.getD 0 0 = l at *
                  have B5 : Hid (Bd w4 n wr rv L) := HB.out.on bel
                  have hwo : wo.heap.size ≤ wr.heap.size := bel.size
                  have hw4 : w4.heap.size ≤ wo.heap.size := sz
                  clear bel hz
                  have K7 : Hid (∀ v2 w2', w2'.ownsRow wo.heap.size 3 1 v2 (zr.length + 1) (zr.map (Value.int .i64) ++ [.int .i64 l]) → (wr.alloc (.cells #[.int .i64 l] 3)).grownBy w2' (Value.slice (some ⟨bz, oz, none⟩) zr.length c5).ownBlock → Below wo.heap.size wo w2' ∧ Below w4.heap.size w4 w2') := fun v2 w2' own2 gr2 => by
                    have h1 : Below wo.heap.size wo w2' := (BL5.out.alloc hwo _).grown gr2 (by simp; omega) (fun j hj => (HOw.out.lt j hj).1)
                    exact ⟨h1, Below.step HB.out.bel h1⟩
                  go_wp2_with (first
                    | (have h7 := O7; clear h7; at_builtin; refine wpList_append_own _ rfl _ _ 22 rfl w4.heap.size 25 il (.slice none 0 0) 1 24 Tryd.underlying22 hil hzl0 hzl1 hzl2 rfl (by decide) _ L.length (L.map Prod.fst) rfl (B7.out.row_alloc _) _ 1 1 [.slice a7 (zr.length + 1) c7] rfl rfl (cell_one_new _ _ _) (by simp [Value.oneCell']) (by unfold maxLen; omega) (by omega) (by simp; omega) ?_; intro v6 w6 own6 gr6 hn6; obtain ⟨a6, c6, hv6⟩ := row_form own6; subst hv6; have A6 : Hid (Bx2 w6 w4.heap.size 24 (.int .i64 n) rv ∧ Bd w4 n (w6.setCell ⟨w4.heap.size, 1, none⟩ (.slice a6 (L.length + 1) c6)) (.slice a6 (L.length + 1) c6) (L ++ [(.slice a7 (zr.length + 1) c7, zr ++ [l])])) := HB.out.app O7.out.2 O7.out.1 own6 gr6; have g0 := A6.out.1.c0; have g1 := A6.out.1.c1; have g2 := A6.out.1.f1)
                    | (at_builtin; refine wpList_append_own _ rfl _ _ 25 rfl wo.heap.size 3 i0 (.int .i64 0) 1 8 Tryd.underlying25 hi0 hz0 hz1 hz2 rfl (by decide) _ zr.length (zr.map (Value.int .i64)) rfl (World.ownsRow.alloc own _) _ 1 1 [.int .i64 l] rfl rfl (cell_one_new _ _ _) (by simp [Value.oneCell']) (by unfold maxLen; omega) (by omega) (by simp; omega) ?_; intro v2 w2' own2 gr2 hn2; obtain ⟨a7, c7, hv7⟩ := row_form own2; subst hv7; have O7 : Hid (Own wo.heap.size w2' (.slice a7 (zr.length + 1) c7) (zr ++ [l]) ∧ Below wo.heap.size wo w2') := ⟨own_onemore6 own2, (K7.out _ _ own2 gr2).1⟩; have B7 : Hid (Bd w4 n w2' rv L) := HB.out.on O7.out.2; have hw7 : w4.heap.size ≤ w2'.heap.size := (K7.out _ _ own2 gr2).2.size; have d1 := B7.out.box.c1; have d2 := (B7.out.on (below_box w2' (.cells #[.slice a7 (zr.length + 1) c7] 25))).box.c1; clear own2 gr2 hn2))
                  go_roundg (gg - 1)
                  case measure => have := HK.out; have := HLT.out; omega
                  case rel => exact ⟨(f + 1), t, k + 1, L ++ [(Value.slice a7 (zr.length + 1) c7, zr ++ [l])], Value.slice a6 (L.length + 1) c6, by have := HK.out; have := HLT.out; omega, by have := HK.out; have := HLT.out; omega, by go_num, by first | rfl | go_num, by go_num, by omega, by have := HLk.out; simp; omega, by rw [List.map_append]; have := HO2.out; rw [HTw.out] at this; exact this, A6.out.2⟩
        · have HOe : Hid (Oe css (L.map Prod.snd)) := HO.out.done hlt
          have hgs : (L.map Prod.snd).length ≤ 1048576 ∧ lsum (L.map Prod.snd) ≤ 2097152 := by
            have h1 := HO.out.sum
            have h2 := H8.out.2.2.2.2
            have h3 : (L.map Prod.snd).length = L.length := List.length_map _
            exact ⟨by omega, by omega⟩
          have HGs : Hid ((L.map Prod.snd).length ≤ 1048576 ∧ lsum (L.map Prod.snd) ≤ 2097152) := hgs
          clear HO hgs hk hft
          by_cases hce : css = []
          · have hcl0 : css.length = 0 := by rw [hce]; rfl
            have hd0 : decide (0 < (css.length : Int)) = false := by rw [hce]; rfl
            have hd1 : decide (0 < css.length) = false := by rw [hce]; rfl
            clear hce
            go_wp2
            clear hcl0 hd0 hd1
            have HTe : Hid (Oe css (L.map Prod.snd) ∧ (L.map Prod.snd).length ≤ 1048577 ∧ lsum (L.map Prod.snd) ≤ 3145728) := ⟨HOe.out, by have := HGs.out; omega, by have := HGs.out; omega⟩
            have HT : Hid (Bd w4 n wr rv L) := HB.out
            clear HB HOe HGs HRs x0 x1 sz hLc HLk
            generalize L = Lt at *
            generalize wr = wt at *
            generalize rv = rt at *
            go_loopg [18, 19] facts.length (fun g lv jv wi => ∃ (m : Nat) (i : Int) (os : List Int), m = g ∧ i + 1 = m ∧ m ≤ facts.length ∧ jv = .int .i64 i ∧ os.length = 2 * (facts.length - m) ∧ Hid (∀ x, x ∈ os ↔ x ∈ facts.drop m) ∧ Own wt.heap.size wi lv os ∧ Below wt.heap.size wt wi)
            case atStart => exact ⟨facts.length, (facts.length : Int) - 1, [], rfl, by omega, Nat.le_refl _, by first | rfl | go_num, by simp, (by unfold Hid; simp), World.ownsRow_nil _ _ _ _, Below.refl _ _⟩
            case round =>
              obtain ⟨m, i, os, hm, hi, hmz, rfl, hos, HMem2, own, bel⟩ := hrel
              have HM2 : Hid (m = gk) := hm
              have hs := bel.size
              have HBt : Hid (Bd w4 n wr rt Lt) := HT.out.on bel
              clear hm
              by_cases hi0' : 0 ≤ i
              · obtain ⟨j, rfl⟩ : ∃ j : Nat, i = (j : Int) := ⟨i.toNat, by omega⟩
                obtain rfl : m = j + 1 := by omega
                obtain ⟨fa', fc', eu, _, _, hcell⟩ := (HR.out.2.1.below (HBw.out wr HBt.out.bel)).form
                injection eu with q1 _ q3
                subst q1; subst q3
                have hjz : j < facts.length := by omega
                obtain ⟨bu, ou, rfl, hcm⟩ := hcell j hjz
                have HDr : Hid (facts.drop j = facts.getD j 0 :: facts.drop (j + 1)) := by
                  show _ = _
                  rw [List.drop_eq_getElem_cons hjz, List.getD_eq_getElem?_getD, List.getElem?_eq_getElem hjz]; rfl
                clear hcell hi
                generalize facts.getD j 0 = l at *
                have ej : wrap64 ((j : Int) - 1) = (j : Int) - 1 := by unfold wrap64; omega
                obtain ⟨oa, oc, hov⟩ := own_form own
                subst hov
                have HOX : Hid (Own wt.heap.size wr (.slice oa os.length oc) os) := own
                have BLX : Hid (Below wt.heap.size wt wr) := bel
                have hol : os.length ≤ 2097152 := by omega
                have HOS : Hid (os.length = 2 * (facts.length - (j + 1))) := hos
                clear own bel hos
                go_wp2_with fail
                go_region_law (refine step_app_rd rfl (.tmp 140) (.tmp 149) rfl wt.heap.size (.slice oa os.length oc) (.slice (some ⟨wr.heap.size, 0, none⟩) 2 2) os [l, l] (by simp [Act.eval, Act.put]) (by simp [Act.eval, Act.put]) (HOX.out.below (Below.step (Below.refl _ _).drew (below_box _ _))) (rd_two wr.drew l) (by simp; omega) (Nat.le_trans hs (by simp)) ?_; intro v7 w7 own7 ap7; obtain ⟨a7, c7, hv7⟩ := own_form own7; simp only [List.length_append, List.length_cons, List.length_nil, Nat.zero_add] at hv7; subst hv7; have HO7 : Hid (Own wt.heap.size w7 (.slice a7 (os.length + (1 + 1)) c7) (os ++ [l, l])) := own7; have HP7 : Hid (Ap (wr.drew.alloc (.cells #[.int .i64 l, .int .i64 l] 3)) (.slice oa os.length oc) w7 (.slice a7 (os.length + (1 + 1)) c7)) := ap7; clear own7 ap7)
                all_goals
                  have HBA : Hid (Below wr.heap.size wr (wr.drew.alloc (.cells #[.int .i64 l, .int .i64 l] 3))) := Below.step (Below.refl _ _).drew (below_box _ _)
                  have HOA : Hid (Own wt.heap.size (wr.drew.alloc (.cells #[.int .i64 l, .int .i64 l] 3)) (.slice oa os.length oc) os) := HOX.out.below HBA.out
                  have HB7 : Hid (Below wt.heap.size wt w7) := (BLX.out.trans (HBA.out.mono hs)).grown HP7.out.grown (Nat.le_trans hs HBA.out.size) (fun k e => (HOA.out.lt k e).1)
                  go_wp2
                  go_roundg (gk - 1)
                  case measure => have := HM2.out; omega
                  case rel => exact ⟨j, (j : Int) - 1, os ++ [l, l], by have := HM2.out; omega, by omega, by omega, by first | rfl | go_num, by have := HOS.out; simp; omega, (by
                    show ∀ x, x ∈ os ++ [l, l] ↔ x ∈ facts.drop j
                    intro x
                    rw [HDr.out, List.mem_append, HMem2.out x, List.mem_cons]
                    simp
                    exact Or.comm), HO7.out, HB7.out⟩
              · obtain rfl : m = 0 := by omega
                obtain rfl : i = -1 := by omega
                have HSm : Hid (∀ x, x ∈ os ↔ x ∈ facts) := by have := HMem2.out; rw [List.drop_zero] at this; exact this
                obtain ⟨oa, oc, hov⟩ := own_form own
                subst hov
                have HRo : Hid (Rd wr (.slice oa os.length oc) os) := own.rd (by omega)
                have HRg : Hid (Rds wr rt (Lt.map Prod.snd)) := OwnF.rds ⟨Lt, HBt.out.own, rfl⟩ (by have := HTe.out.2.1; omega) (fun z hz => by have h1 := lsum_mem hz; have h2 := HTe.out.2.2; omega)
                have HFw : Hid (Few (Lt.map Prod.snd)) := Few.of (by have := HTe.out.2.1; omega) (by have := HTe.out.2.2; omega)
                have HE0 : Hid (cloE n (Lt.map Prod.snd) os = 0) := by
                  have h1 := HTe.out.1.frm HFm.out
                  have h2 : os.all fmd = true := List.all_eq_true.2 fun x hx => List.all_eq_true.1 HSd.out x ((HSm.out x).1 hx)
                  unfold Hid cloE; rw [h1, h2]; rfl
                have HCall : Hid (Calls Tryd.prog 7 #[.agg #[.int .i64 n, rt], .slice oa os.length oc] wr fun e w' => ∃ u clash D, e = .returned (.tuple #[u, .bool clash, .int .i64 (cloE n (Lt.map Prod.snd) os)]) ∧ Clz wr w' n (Lt.map Prod.snd) os u clash D) := uClose_any n _ _ (Lt.map Prod.snd) os wr HRg.out HRo.out HFw.out (HR.out.2.2.2.1.below (HBw.out wr HBt.out.bel))
                have d0 := HBt.out.box.c0
                have d1 := HBt.out.box.c1
                clear hi0' hi own hos HMem2 bel
                go_wp2_with fail
                refine HCall.out.mono ?_
                rintro e w8 ⟨u8, cl8, D8, rfl, cz8⟩
                rw [HE0.out]
                obtain ⟨hc8, hD8⟩ := HTe.out.1.says HSm.out HS.out (cz8.yes HE0.out)
                subst hc8; subst hD8
                have H8b : Hid (Rd w8 u8 D ∧ Below w4.heap.size w4 w8) := ⟨cz8.own.rd (by have := HLD.out; omega), Below.step HBt.out.bel cz8.bel⟩
                obtain ⟨a8, c8, e8⟩ := own_form cz8.own
                subst e8
                have HSame : Hid (Calls Tryd.prog 13 #[.slice a3 D.length c3, .slice a8 D.length c8] w8 fun e w' => e = .returned (.bool true) ∧ Below w8.heap.size w8 w') := by
                  have := sameInts_any _ _ D D w8 ((H4.out.2.below H8b.out.2).rd (by have := HLD.out; omega)) H8b.out.1
                  rw [show (D == D) = true by simp] at this
                  exact this
                have hcc : (cl3 == cl3) = true := by simp
                clear cz8 d0 d1 HCall
                go_wp2_with fail
                refine HSame.out.mono ?_
                rintro e w9 ⟨rfl, bel9⟩
                have H9 : Hid (Below w.heap.size w w9) := HBw.out w9 (Below.step H8b.out.2 bel9)
                clear bel9 HSame
                go_wp2_with fail
                refine (HAw.out w9 H9.out).mono ?_
                rintro e w10 ⟨rfl, bel10⟩
                have HF : Hid (Below w.heap.size w w10) := bel10
                clear bel10
                go_wp2
                go_ret
                exact ⟨rfl, HF.out⟩
          · have hcp : 0 < css.length := List.length_pos_iff.2 hce
            obtain ⟨b, off, u, rfl, hcz, hu0⟩ : ∃ b off u, sa = some ⟨b, off, none⟩ ∧ wr.cell? ⟨b, off + 0, none⟩ = some u ∧ Rd wr u (css.getD 0 []) := by
              obtain ⟨sa', sc', es, _, _, hcell⟩ := HRs.out.form
              injection es with es1 _ es3
              subst es1; subst es3
              exact hcell 0 hcp
            have hcz' : wr.cell? ⟨b, off, none⟩ = some u := hcz
            have HUz : Hid (Rd wr u (css.getD 0 [])) := hu0
            have HMem : Hid (css.getD 0 [] ∈ css ∧ (css.getD 0 []).length ≤ 1048576) := ⟨getD_mem' hcp, Nat.le_trans (lsum_mem (getD_mem' hcp)) H8.out.2.2.2.2⟩
            clear hcz hu0 hce
            generalize css.getD 0 [] = z at *
            go_wp2_with fail
            refine (copyInts_any _ z wr HUz.out).mono ?_
            rintro e w5 ⟨u5, rfl, own5, bel5⟩
            obtain ⟨a5, c5, hu5⟩ := own_form own5
            subst hu5
            have B5 : Hid (Bd w4 n w5 rv L) := HB.out.on bel5
            have O5 : Hid (Own wr.heap.size w5 (.slice a5 z.length c5) z ∧ Below wr.heap.size wr w5) := ⟨own5, bel5⟩
            have hw5 : w4.heap.size ≤ w5.heap.size := B5.out.bel.size
            have d1 := B5.out.box.c1
            clear own5 bel5 hcz'
            go_wp2_with (at_builtin; refine wpList_append_own _ rfl _ _ 22 rfl w4.heap.size 25 il (.slice none 0 0) 1 24 Tryd.underlying22 hil hzl0 hzl1 hzl2 rfl (by decide) _ L.length (L.map Prod.fst) rfl (B5.out.row_alloc _) _ 1 1 [.slice a5 z.length c5] rfl rfl (cell_one_new _ _ _) (by simp [Value.oneCell']) (by unfold maxLen; omega) (by omega) (by simp; omega) ?_; intro v6 w6 own6 gr6 hn6; obtain ⟨a6, c6, hv6⟩ := row_form own6; subst hv6; have A6 : Hid (Bx2 w6 w4.heap.size 24 (.int .i64 n) rv ∧ Bd w4 n (w6.setCell ⟨w4.heap.size, 1, none⟩ (.slice a6 (L.length + 1) c6)) (.slice a6 (L.length + 1) c6) (L ++ [(.slice a5 z.length c5, z)])) := HB.out.app O5.out.2 O5.out.1 own6 gr6; have g0 := A6.out.1.c0; have g1 := A6.out.1.c1; have g2 := A6.out.1.f1)
            have HTe : Hid (Oe css ((L ++ [(Value.slice a5 z.length c5, z)]).map Prod.snd) ∧ ((L ++ [(Value.slice a5 z.length c5, z)]).map Prod.snd).length ≤ 1048577 ∧ lsum ((L ++ [(Value.slice a5 z.length c5, z)]).map Prod.snd) ≤ 3145728) := by
              show _ ∧ _ ∧ _
              rw [List.map_append]
              refine ⟨HOe.out.more HMem.out.1, ?_, ?_⟩
              · have := HGs.out.1; rw [List.length_append]; show _ + 1 ≤ _; omega
              · have h1 := HGs.out.2; have h2 := HMem.out.2; rw [lsum_app]; show _ + lsum [z] ≤ _; rw [lsum_cons1]; show _ + (_ + 0) ≤ _; omega
            have HT : Hid (Bd w4 n (w6.setCell ⟨w4.heap.size, 1, none⟩ (.slice a6 (L.length + 1) c6)) (Value.slice a6 (L.length + 1) c6) (L ++ [(Value.slice a5 z.length c5, z)])) := A6.out.2
            clear A6 g0 g1 g2 gr6 own6 hn6 HB HOe HGs HRs x0 x1 sz hLc HLk B5 O5 hw5 d1 HMem HUz
            generalize (L ++ [(Value.slice a5 z.length c5, z)]) = Lt at *
            generalize (w6.setCell ⟨w4.heap.size, 1, none⟩ (.slice a6 (L.length + 1) c6)) = wt at *
            generalize (Value.slice a6 (L.length + 1) c6) = rt at *
            go_loopg [18, 19] facts.length (fun g lv jv wi => ∃ (m : Nat) (i : Int) (os : List Int), m = g ∧ i + 1 = m ∧ m ≤ facts.length ∧ jv = .int .i64 i ∧ os.length = 2 * (facts.length - m) ∧ Hid (∀ x, x ∈ os ↔ x ∈ facts.drop m) ∧ Own wt.heap.size wi lv os ∧ Below wt.heap.size wt wi)
            case atStart => exact ⟨facts.length, (facts.length : Int) - 1, [], rfl, by omega, Nat.le_refl _, by first | rfl | go_num, by simp, (by unfold Hid; simp), World.ownsRow_nil _ _ _ _, Below.refl _ _⟩
            case round =>
              obtain ⟨m, i, os, hm, hi, hmz, rfl, hos, HMem2, own, bel⟩ := hrel
              have HM2 : Hid (m = gk) := hm
              have hs := bel.size
              have HBt : Hid (Bd w4 n wr rt Lt) := HT.out.on bel
              clear hm
              by_cases hi0' : 0 ≤ i
              · obtain ⟨j, rfl⟩ : ∃ j : Nat, i = (j : Int) := ⟨i.toNat, by omega⟩
                obtain rfl : m = j + 1 := by omega
                obtain ⟨fa', fc', eu, _, _, hcell⟩ := (HR.out.2.1.below (HBw.out wr HBt.out.bel)).form
                injection eu with q1 _ q3
                subst q1; subst q3
                have hjz : j < facts.length := by omega
                obtain ⟨bu, ou, rfl, hcm⟩ := hcell j hjz
                have HDr : Hid (facts.drop j = facts.getD j 0 :: facts.drop (j + 1)) := by
                  show _ = _
                  rw [List.drop_eq_getElem_cons hjz, List.getD_eq_getElem?_getD, List.getElem?_eq_getElem hjz]; rfl
                clear hcell hi
                generalize facts.getD j 0 = l at *
                have ej : wrap64 ((j : Int) - 1) = (j : Int) - 1 := by unfold wrap64; omega
                obtain ⟨oa, oc, hov⟩ := own_form own
                subst hov
                have HOX : Hid (Own wt.heap.size wr (.slice oa os.length oc) os) := own
                have BLX : Hid (Below wt.heap.size wt wr) := bel
                have hol : os.length ≤ 2097152 := by omega
                have HOS : Hid (os.length = 2 * (facts.length - (j + 1))) := hos
                clear own bel hos
                go_wp2_with fail
                go_region_law (refine step_app_rd rfl (.tmp 140) (.tmp 149) rfl wt.heap.size (.slice oa os.length oc) (.slice (some ⟨wr.heap.size, 0, none⟩) 2 2) os [l, l] (by simp [Act.eval, Act.put]) (by simp [Act.eval, Act.put]) (HOX.out.below (Below.step (Below.refl _ _).drew (below_box _ _))) (rd_two wr.drew l) (by simp; omega) (Nat.le_trans hs (by simp)) ?_; intro v7 w7 own7 ap7; obtain ⟨a7, c7, hv7⟩ := own_form own7; simp only [List.length_append, List.length_cons, List.length_nil, Nat.zero_add] at hv7; subst hv7; have HO7 : Hid (Own wt.heap.size w7 (.slice a7 (os.length + (1 + 1)) c7) (os ++ [l, l])) := own7; have HP7 : Hid (Ap (wr.drew.alloc (.cells #[.int .i64 l, .int .i64 l] 3)) (.slice oa os.length oc) w7 (.slice a7 (os.length + (1 + 1)) c7)) := ap7; clear own7 ap7)
                all_goals
                  have HBA : Hid (Below wr.heap.size wr (wr.drew.alloc (.cells #[.int .i64 l, .int .i64 l] 3))) := Below.step (Below.refl _ _).drew (below_box _ _)
                  have HOA : Hid (Own wt.heap.size (wr.drew.alloc (.cells #[.int .i64 l, .int .i64 l] 3)) (.slice oa os.length oc) os) := HOX.out.below HBA.out
                  have HB7 : Hid (Below wt.heap.size wt w7) := (BLX.out.trans (HBA.out.mono hs)).grown HP7.out.grown (Nat.le_trans hs HBA.out.size) (fun k e => (HOA.out.lt k e).1)
                  go_wp2
                  go_roundg (gk - 1)
                  case measure => have := HM2.out; omega
                  case rel => exact ⟨j, (j : Int) - 1, os ++ [l, l], by have := HM2.out; omega, by omega, by omega, by first | rfl | go_num, by have := HOS.out; simp; omega, (by
                    show ∀ x, x ∈ os ++ [l, l] ↔ x ∈ facts.drop j
                    intro x
                    rw [HDr.out, List.mem_append, HMem2.out x, List.mem_cons]
                    simp
                    exact Or.comm), HO7.out, HB7.out⟩
              · obtain rfl : m = 0 := by omega
                obtain rfl : i = -1 := by omega
                have HSm : Hid (∀ x, x ∈ os ↔ x ∈ facts) := by have := HMem2.out; rw [List.drop_zero] at this; exact this
                obtain ⟨oa, oc, hov⟩ := own_form own
                subst hov
                have HRo : Hid (Rd wr (.slice oa os.length oc) os) := own.rd (by omega)
                have HRg : Hid (Rds wr rt (Lt.map Prod.snd)) := OwnF.rds ⟨Lt, HBt.out.own, rfl⟩ (by have := HTe.out.2.1; omega) (fun z hz => by have h1 := lsum_mem hz; have h2 := HTe.out.2.2; omega)
                have HFw : Hid (Few (Lt.map Prod.snd)) := Few.of (by have := HTe.out.2.1; omega) (by have := HTe.out.2.2; omega)
                have HE0 : Hid (cloE n (Lt.map Prod.snd) os = 0) := by
                  have h1 := HTe.out.1.frm HFm.out
                  have h2 : os.all fmd = true := List.all_eq_true.2 fun x hx => List.all_eq_true.1 HSd.out x ((HSm.out x).1 hx)
                  unfold Hid cloE; rw [h1, h2]; rfl
                have HCall : Hid (Calls Tryd.prog 7 #[.agg #[.int .i64 n, rt], .slice oa os.length oc] wr fun e w' => ∃ u clash D, e = .returned (.tuple #[u, .bool clash, .int .i64 (cloE n (Lt.map Prod.snd) os)]) ∧ Clz wr w' n (Lt.map Prod.snd) os u clash D) := uClose_any n _ _ (Lt.map Prod.snd) os wr HRg.out HRo.out HFw.out (HR.out.2.2.2.1.below (HBw.out wr HBt.out.bel))
                have d0 := HBt.out.box.c0
                have d1 := HBt.out.box.c1
                clear hi0' hi own hos HMem2 bel
                go_wp2_with fail
                refine HCall.out.mono ?_
                rintro e w8 ⟨u8, cl8, D8, rfl, cz8⟩
                rw [HE0.out]
                obtain ⟨hc8, hD8⟩ := HTe.out.1.says HSm.out HS.out (cz8.yes HE0.out)
                subst hc8; subst hD8
                have H8b : Hid (Rd w8 u8 D ∧ Below w4.heap.size w4 w8) := ⟨cz8.own.rd (by have := HLD.out; omega), Below.step HBt.out.bel cz8.bel⟩
                obtain ⟨a8, c8, e8⟩ := own_form cz8.own
                subst e8
                have HSame : Hid (Calls Tryd.prog 13 #[.slice a3 D.length c3, .slice a8 D.length c8] w8 fun e w' => e = .returned (.bool true) ∧ Below w8.heap.size w8 w') := by
                  have := sameInts_any _ _ D D w8 ((H4.out.2.below H8b.out.2).rd (by have := HLD.out; omega)) H8b.out.1
                  rw [show (D == D) = true by simp] at this
                  exact this
                have hcc : (cl3 == cl3) = true := by simp
                clear cz8 d0 d1 HCall
                go_wp2_with fail
                refine HSame.out.mono ?_
                rintro e w9 ⟨rfl, bel9⟩
                have H9 : Hid (Below w.heap.size w w9) := HBw.out w9 (Below.step H8b.out.2 bel9)
                clear bel9 HSame
                go_wp2_with fail
                refine (HAw.out w9 H9.out).mono ?_
                rintro e w10 ⟨rfl, bel10⟩
                have HF : Hid (Below w.heap.size w w10) := bel10
                clear bel10
                go_wp2
                go_ret
                exact ⟨rfl, HF.out⟩
end unitOrders
end Go.Proofs.YtfjdgjmfihgjhabDoor
