/-
  UnitGrows: the walk.
  KEEP: set on app at below new trans refl start ap kept rd rds mono lt add none own nil put len pos setF setV putL putR other neV same_any
-/
import Derived.Test.YtfjdgjmfihgjhabDoorUnHi
set_option linter.unusedSimpArgs false
set_option linter.unusedVariables false
namespace Go.Proofs.YtfjdgjmfihgjhabDoor
open Go Go.RowKit
theorem clz_len6 {w w' : World} {v : Int} {css : List (List Int)} {facts : List Int} {u : Value} {b : Bool} {D : List Int} (h : Clz w w' v css facts u b D) : D.length ≤ 2097152 := by
  have hn : D.Nodup := by
    by_cases h0 : cloE v css facts = 0
    · rcases h.yes h0 with ⟨_, _, e⟩ | ⟨_, _, hr, _⟩
      · rw [e]; exact List.nodup_nil
      · exact hr.imp (fun h => by intro e; subst e; omega)
    · rw [(h.no h0).2]; exact List.nodup_nil
  exact lits_few hn h.fmd
theorem infoLs : (Tryd.prog.info? 25).map (fun i => (i.zero, i.size, i.bytes)) = some (some (.slice none 0 0), 1, 24) := by kernel_rfl
/-- more facts, more clauses: no less -/
theorem grows6 {css : List (List Int)} {facts cl : List Int} {x : Int} {b b' : Bool} {D D' : List Int} (h : Says6 css facts b D) (h' : Says6 (css ++ [cl]) (facts ++ [x]) b' D') : (b = true → b' = true) ∧ (b' = false → (∀ y ∈ D, y ∈ D') ∧ x ∈ D') := by
  have hc : ∀ c ∈ css, ∃ c' ∈ css ++ [cl], ∀ y, y ∈ c ↔ y ∈ c' := fun c hc => ⟨c, List.mem_append.2 (.inl hc), fun _ => Iff.rfl⟩
  have hL : ∀ y ∈ facts, Der (css ++ [cl]) (facts ++ [x]) y := fun y hy => .fact (List.mem_append.2 (.inl hy))
  constructor
  · intro hb
    rcases h with ⟨_, c, _⟩ | ⟨e, _⟩
    · rcases h' with ⟨e', _⟩ | ⟨_, c', _⟩
      · exact e'
      · exact absurd (c.mono hc hL) c'
    · rw [hb] at e; cases e
  · intro hb
    rcases h' with ⟨e', _⟩ | ⟨_, _, _, f'⟩
    · rw [hb] at e'; cases e'
    · refine ⟨fun y hy => ?_, (f' x).2 (.fact (by simp))⟩
      rcases h with ⟨_, _, d⟩ | ⟨_, _, _, f⟩
      · rw [d] at hy; simp at hy
      · exact (f' y).2 (((f y).1 hy).mono hc hL)
theorem again6 {css : List (List Int)} {facts : List Int} {b : Bool} {D A : List Int} (h : Says6 css facts false D) (h' : Says6 css D b A) : b = false ∧ A = D := by
  rcases h with ⟨e, _⟩ | ⟨_, c, d, f⟩
  · cases e
  · have h1 : ∀ x, Der css D x ↔ Der css facts x := fun x => ⟨fun hx => hx.trans fun y hy => (f y).1 hy, fun hx => hx.trans fun y hy => .fact ((f y).2 (.fact hy))⟩
    have h2 : Cla css D ↔ Cla css facts := ⟨fun hx => hx.trans fun y hy => (f y).1 hy, fun hx => hx.trans fun y hy => .fact ((f y).2 (.fact hy))⟩
    have := Says6.unique h1 h2 h' (.inr ⟨rfl, c, d, f⟩)
    exact this
theorem one_new (w : World) (x : Value) (t : TypeId) : ∀ j y, [x][j]? = some y → (w.alloc (.cells #[x] t)).cell? ((⟨w.heap.size, 0, none⟩ : Addr).add j) = some y := fun j y hy => by
  rw [Addr.add_lit]
  have hh := World.alloc_heap_new w (.cells #[x] t)
  show (match (w.alloc (.cells #[x] t)).heap[w.heap.size]? with | some (Obj.cells c elem frozen) => c[0 + j]? | x => none) = _
  rw [hh]
  simpa using hy
namespace unitGrows
set_option maxRecDepth 100000 in
set_option maxHeartbeats 8000000 in
theorem walk (n : Int) (s : Value) (css : List (List Int)) (vf : Value) (facts : List Int) (vc : Value) (cl : List Int) (x : Int) (w : World) (_ : (Lit.int .i64 n).wf = true) (hr : Rds w s css) (hf : Rd w vf facts) (hc : Rd w vc cl) (hx : (Lit.int .i64 x).wf = true) (hb : css.length + (css.map List.length).sum ≤ 1048576) (hb2 : facts.length ≤ 1048576) (hb3 : cl.length ≤ 1048576) (hD : Deb w) :
    Calls Tryd.prog 5 #[.agg #[.int .i64 n, s], vf, vc, .int .i64 x] w fun e w' => e = .returned (.bool true) ∧ Below w.heap.size w w' := by
  have HR : Hid (Rds w s css ∧ Rd w vf facts ∧ Rd w vc cl ∧ Deb w ∧ Few css ∧ Few (css ++ [cl])) := ⟨hr, hf, hc, hD, Few.of (by omega) (by unfold lsum; omega), Few.of (by simp; omega) (by unfold lsum; simp; omega)⟩
  have H8 : Hid (css.length * 24 ≤ 140737488351232 ∧ (∀ z ∈ css, z.length * 8 ≤ 140737488351232) ∧ facts.length ≤ 1048576 ∧ cl.length ≤ 1048576 ∧ css.length ≤ 1048576) := ⟨hr.len, rds_each hr, hb2, hb3, by omega⟩
  have HB1 : Hid (Below w.heap.size w (w.alloc (.cells #[.int .i64 n, s] 24))) := below_box _ _
  have k0 := box0 w (.int .i64 n) s 24
  have k1 := box1 w (.int .i64 n) s 24
  have hbs : w.heap.size < (w.alloc (.cells #[.int .i64 n, s] 24)).heap.size := by rw [World.size_alloc]; exact Nat.lt_succ_self _
  have HX0 : Hid (∀ W, Below (w.alloc (.cells #[.int .i64 n, s] 24)).heap.size (w.alloc (.cells #[.int .i64 n, s] 24)) W → W.cell? ⟨w.heap.size, 0, none⟩ = some (.int .i64 n) ∧ W.cell? ⟨w.heap.size, 1, none⟩ = some s) := fun W hW => ⟨(hW.cell (p := ⟨w.heap.size, 0, none⟩) hbs).trans k0, (hW.cell (p := ⟨w.heap.size, 1, none⟩) hbs).trans k1⟩
  have HAw : Hid (∀ W, Below w.heap.size w W → Calls Tryd.prog 12 #[] W fun e w' => e = .returned (.bool true) ∧ Below w.heap.size w w') := fun W hW => (awake6_any W (hD.below hW)).mono fun e w' h => ⟨h.1, Below.step hW h.2⟩
  clear hr hf hc hD hb hb2 hb3 hbs k0 k1 hx
  go_enter Tryd.func5, Tryd.ntmps5
  go_wp2_with fail
  refine (shaped6_any n s css _ (HR.out.1.below (below_box _ _))).mono ?_
  rintro e w1 ⟨rfl, bel1⟩
  generalize w.alloc (.cells #[.int .i64 n, s] 24) = W0 at *
  have HW1 : Hid (Below W0.heap.size W0 w1) := bel1
  clear bel1
  cases hfm : frm n css
  · go_wp2_with fail
    refine (HAw.out w1 (Below.step HB1.out HW1.out)).mono ?_
    rintro e w9 ⟨rfl, bel9⟩
    have HF : Hid (Below w.heap.size w w9) := bel9
    clear bel9
    go_wp2
    go_ret
    exact ⟨rfl, HF.out⟩
  · have hn : 0 ≤ n ∧ n ≤ 1048576 := by
      unfold frm at hfm
      rw [Bool.and_eq_true] at hfm
      exact of_decide_eq_true hfm.1
    have HFm : Hid (frm n css = true) := hfm
    go_wp2_with fail
    refine (within6_any vf facts 1048576 w1 (HR.out.2.1.below (Below.step HB1.out HW1.out)) (by decide) (by decide)).mono ?_
    rintro e w2 ⟨rfl, hw2⟩
    obtain rfl : w1 = w2 := hw2.symm
    rw [fits_all]
    clear hw2 hfm
    cases hsd : facts.all fmd
    · go_wp2_with fail
      refine (HAw.out w1 (Below.step HB1.out HW1.out)).mono ?_
      rintro e w9 ⟨rfl, bel9⟩
      have HF : Hid (Below w.heap.size w w9) := bel9
      clear bel9
      go_wp2
      go_ret
      exact ⟨rfl, HF.out⟩
    · have HSd : Hid (facts.all fmd = true) := hsd
      clear hsd
      obtain ⟨k0, k1⟩ := HX0.out w1 HW1.out
      go_wp2_with fail
      refine (within6_any vc cl n w1 (HR.out.2.2.1.below (Below.step HB1.out HW1.out)) hn.1 hn.2).mono ?_
      rintro e w2 ⟨rfl, hw2⟩
      obtain rfl : w1 = w2 := hw2.symm
      clear hw2
      cases hcl : fitsP n cl
      · go_wp2_with fail
        refine (HAw.out w1 (Below.step HB1.out HW1.out)).mono ?_
        rintro e w9 ⟨rfl, bel9⟩
        have HF : Hid (Below w.heap.size w w9) := bel9
        clear bel9
        go_wp2
        go_ret
        exact ⟨rfl, HF.out⟩
      · have HCl : Hid (fitsP n cl = true) := hcl
        clear hcl
        go_wp2_with fail
        refine (within6_any _ [x] 1048576 _ ((ownOne w1 x).rd (by simp)) (by decide) (by decide)).mono ?_
        rintro e w2 ⟨rfl, hw2⟩
        obtain rfl := hw2
        rw [fits_all]
        have HW2 : Hid (Below W0.heap.size W0 (w1.alloc (.cells #[.int .i64 x] 3))) := Below.step HW1.out (below_box _ _)
        obtain ⟨k2, k3⟩ := HX0.out _ HW2.out
        clear HW1 k0 k1
        generalize w1.alloc (.cells #[.int .i64 x] 3) = w2 at *
        cases hfx : [x].all fmd
        · go_wp2_with fail
          refine (HAw.out w2 (Below.step HB1.out HW2.out)).mono ?_
          rintro e w9 ⟨rfl, bel9⟩
          have HF : Hid (Below w.heap.size w w9) := bel9
          clear bel9
          go_wp2
          go_ret
          exact ⟨rfl, HF.out⟩
        · have HFx : Hid (fmd x = true) := by show fmd x = true; simpa using hfx
          have HC0 : Hid (cloE n css facts = 0 ∧ cloE n (css ++ [cl]) (facts ++ [x]) = 0) := by
            have e1 : frm n (css ++ [cl]) = true := by
              have := HFm.out
              unfold frm at this ⊢
              rw [List.all_append, List.all_cons, List.all_nil, HCl.out]
              simpa using this
            have e2 : (facts ++ [x]).all fmd = true := by rw [List.all_append, HSd.out, hfx]; rfl
            exact ⟨by unfold cloE; rw [HFm.out, HSd.out]; rfl, by unfold cloE; rw [e1, e2]; rfl⟩
          clear hfx
          go_wp2_with fail
          refine (copyFormula_any n s css w2 (HR.out.1.below (Below.step HB1.out HW2.out))).mono ?_
          rintro e w3 ⟨u3, rfl, own3, bel3⟩
          have H3 : Hid (Rds w3 u3 css ∧ Below W0.heap.size W0 w3) := ⟨own3.rds H8.out.1 H8.out.2.1, Below.step HW2.out bel3⟩
          obtain ⟨a3, c3, e3⟩ := ownf_form own3
          subst e3
          clear own3 bel3 k2 k3
          go_wp2_with fail
          refine (copyInts_any vf facts w3 (HR.out.2.1.below (Below.step HB1.out H3.out.2))).mono ?_
          rintro e w4 ⟨u4, rfl, own4, bel4⟩
          have H4 : Hid (Rds w4 (.slice a3 css.length c3) css ∧ Rd w4 u4 facts ∧ Below W0.heap.size W0 w4) := ⟨H3.out.1.below bel4, own4.rd (by have := H8.out.2.2.1; omega), Below.step H3.out.2 bel4⟩
          obtain ⟨a4, c4, e4⟩ := own_form own4
          subst e4
          clear own4 bel4 H3
          go_wp2_with fail
          refine (uClose_any n _ _ css facts w4 H4.out.1 H4.out.2.1 HR.out.2.2.2.2.1 (HR.out.2.2.2.1.below (Below.step HB1.out H4.out.2.2))).mono ?_
          rintro e w5 ⟨u5, cl5, D5, rfl, cz5⟩
          rw [HC0.out.1]
          have H5 : Hid (Says6 css facts cl5 D5 ∧ Own W0.heap.size w5 u5 D5 ∧ D5.length ≤ 2097152 ∧ Below W0.heap.size W0 w5 ∧ ∀ y ∈ D5, fmd y = true) := ⟨cz5.yes HC0.out.1, cz5.own.mono H4.out.2.2.size, clz_len6 cz5, Below.step H4.out.2.2 cz5.bel, cz5.fmd⟩
          obtain ⟨a5, c5, e5⟩ := own_form cz5.own
          subst e5
          clear cz5 H4
          go_wp2_with fail
          refine (copyInts_any vf facts w5 (HR.out.2.1.below (Below.step HB1.out H5.out.2.2.2.1))).mono ?_
          rintro e w6 ⟨u6, rfl, own6, bel6⟩
          have H6 : Hid (Own w5.heap.size w6 u6 facts ∧ Below w5.heap.size w5 w6) := ⟨own6, bel6⟩
          obtain ⟨a6, c6, e6⟩ := own_form own6
          subst e6
          clear own6 bel6
          have HO6 : Hid (Own w5.heap.size (w6.alloc (.cells #[.int .i64 x] 3)) (.slice a6 facts.length c6) facts) := H6.out.1.below (below_box _ _)
          have HR6 : Hid (Rd (w6.alloc (.cells #[.int .i64 x] 3)) (.slice (some ⟨w6.heap.size, 0, none⟩) 1 1) [x]) := (ownOne w6 x).rd (by simp)
          have hl6 : (facts.length + 1) * 8 ≤ 140737488355328 := by have := H8.out.2.2.1; omega
          have HA6 : Hid (∀ v7 w7, Own w5.heap.size w7 v7 (facts ++ [x]) → Ap (w6.alloc (.cells #[.int .i64 x] 3)) (.slice a6 facts.length c6) w7 v7 → Below w5.heap.size w5 w7) := fun v7 w7 own7 ap7 => (Below.step H6.out.2 (below_box _ _)).grown ap7.grown (Nat.le_trans H6.out.2.size (below_box _ _).size) (fun q e => (HO6.out.lt q e).1)
          have HS6 : Hid (w5.heap.size ≤ (w6.alloc (.cells #[.int .i64 x] 3)).heap.size) := Nat.le_trans H6.out.2.size (below_box _ _).size
          go_wp2_with (at_builtin; refine wpList_app_rd rfl _ _ rfl w5.heap.size (.slice a6 facts.length c6) (.slice (some ⟨w6.heap.size, 0, none⟩) 1 1) facts [x] rfl rfl HO6.out HR6.out hl6 HS6.out ?_; intro v7 w7 own7 ap7; have F7 : Hid (Own w5.heap.size w7 v7 (facts ++ [x]) ∧ Below w5.heap.size w5 w7) := ⟨own7, HA6.out v7 w7 own7 ap7⟩; obtain ⟨a7, c7, hv7⟩ := own_form own7; subst hv7; clear own7 ap7; have kk := HX0.out w7 (Below.step H5.out.2.2.2.1 F7.out.2); have k4 := kk.1; have k5 := kk.2; clear kk)
          refine (copyFormula_any n s css w7 (HR.out.1.below (Below.step HB1.out (Below.step H5.out.2.2.2.1 F7.out.2)))).mono ?_
          rintro e w8 ⟨u8, rfl, ⟨L, hRw, hLw⟩, bel8⟩
          have HL : Hid (L.map Prod.snd = css) := hLw
          have HLl : Hid (L.length = css.length) := by show _ = _; rw [← hLw]; simp
          have H8b : Hid (OwnR w7.heap.size (w8.alloc (.cells #[.int .i64 n, u8] 24)) u8 L ∧ Bx2 (w8.alloc (.cells #[.int .i64 n, u8] 24)) w8.heap.size 24 (.int .i64 n) u8 ∧ Below w7.heap.size w7 (w8.alloc (.cells #[.int .i64 n, u8] 24)) ∧ w7.heap.size ≤ w8.heap.size) := ⟨hRw.below (below_box _ _), Bx2.new _ _ _ _, Below.step bel8 (below_box _ _), bel8.size⟩
          obtain ⟨a8, c8, e8⟩ := row_form hRw.row
          subst e8
          clear hRw hLw bel8 k4 k5
          have hD8 : w8.heap.size < (w8.alloc (.cells #[.int .i64 n, .slice a8 L.length c8] 24)).heap.size := by rw [World.size_alloc]; exact Nat.lt_succ_self _
          go_upto_region 7 with fail
          generalize w8.alloc (.cells #[.int .i64 n, .slice a8 L.length c8] 24) = W8 at *
          generalize w8.heap.size = D at *
          obtain ⟨il, hil, hzl0, hzl1, hzl2⟩ := info_parts infoLs
          have HIl : Hid (Tryd.prog.info? 25 = some il ∧ il.zero = some (.slice none 0 0) ∧ il.size = 1 ∧ il.bytes = 24) := ⟨hil, hzl0, hzl1, hzl2⟩
          have b1 := H8b.out.2.1.c1
          have HCI : Hid (∀ W, Below W8.heap.size W8 W → Calls Tryd.prog 9 #[vc] W fun e w' => ∃ u, e = .returned u ∧ Own W8.heap.size w' u cl ∧ Below W8.heap.size W8 w') := fun W hW => (copyInts_any vc cl W (HR.out.2.2.1.below (Below.step HB1.out (Below.step H5.out.2.2.2.1 (Below.step F7.out.2 (Below.step H8b.out.2.2.1 hW)))))).mono fun e w' ⟨u, h1, h2, h3⟩ => ⟨u, h1, h2.mono hW.size, Below.step hW h3⟩
          have hlL : L.length ≤ 1048576 := by have h1 := HLl.out; have h2 := H8.out.2.2.2.2; omega
          have HApp : Hid (∀ w9 a9 c9 v10 w10, Own W8.heap.size w9 (.slice a9 cl.length c9) cl → Below W8.heap.size W8 w9 → w10.ownsRow w7.heap.size 25 1 v10 (L.length + 1) (L.map Prod.fst ++ [.slice a9 cl.length c9]) → (w9.alloc (.cells #[.slice a9 cl.length c9] 25)).grownBy w10 (Value.slice a8 L.length c8).ownBlock →
              (∃ a10 c10, v10 = .slice a10 (L.length + 1) c10) ∧ w10.cell? ⟨D, 1, none⟩ = some (.slice a8 L.length c8) ∧ w10.frozen? ⟨D, 1, none⟩ = false ∧ w10.cell? ⟨D, 0, none⟩ = some (.int .i64 n) ∧
              Bx2 (w10.setCell ⟨D, 1, none⟩ v10) D 24 (.int .i64 n) v10 ∧ OwnF w7.heap.size (w10.setCell ⟨D, 1, none⟩ v10) v10 (css ++ [cl]) ∧ Below w7.heap.size w7 (w10.setCell ⟨D, 1, none⟩ v10)) := fun w9 a9 c9 v10 w10 own9 bel9 own10 gr10 => by
            have r9 := H8b.out.1.below bel9
            have bx9 := H8b.out.2.1.below bel9
            have ga := World.grownBy_alloc w9 (.cells #[.slice a9 cl.length c9] 25) none
            have bxa := bx9.kept ga (by simp)
            have rowa := World.ownsRow.kept r9.row ga (one_or _)
            have bx10 := bxa.kept gr10 (bxa.not_row (by decide) rowa)
            have hu' : Own w7.heap.size w9 (.slice a9 cl.length c9) cl := own9.mono H8b.out.2.2.1.size
            have R10 := r9.app ga own10 gr10 hu' (ApartC.snoc H8b.out.1.ap H8b.out.1.own own9 (Nat.le_refl _))
            have hb9 : Below w7.heap.size w7 (w9.alloc (.cells #[.slice a9 cl.length c9] 25)) := Below.step (Below.step H8b.out.2.2.1 bel9) (below_box _ _)
            refine ⟨row_form own10, bx10.c1, bx10.f1, bx10.c0, bx10.set1 v10, ⟨_, R10.set bx10 (by decide) (by decide) 1 v10, by rw [List.map_append, HL.out]; rfl⟩, ?_⟩
            exact (hb9.grown gr10 hb9.size (fun b e => (World.ownsRow.lt rowa b e).1)).setCell (p := ⟨D, 1, none⟩) (by show w7.heap.size ≤ D; exact H8b.out.2.2.2) _
          have hl63 : L.length + 1 ≤ maxLen := by unfold maxLen; omega
          have hl48 : (L.length + 1) * 24 ≤ 140737488355328 := by omega
          go_cut [] from 60 to 66 (fun wx => ∃ v10, Bx2 wx D 24 (.int .i64 n) v10 ∧ OwnF w7.heap.size wx v10 (css ++ [cl]) ∧ Below w7.heap.size w7 wx)
          case first =>
            go_region_law (first
              | (go_simp; go_at_call 9; refine (HCI.out _ (by first | exact Below.refl _ _ | exact (Below.refl _ _).drew)).mono ?_; intro e w9 hh; obtain ⟨u9, he9, own9, bel9⟩ := hh; rw [he9]; clear he9; obtain ⟨a9, c9, hu9⟩ := own_form own9; subst hu9; have O9 : Hid (Own W8.heap.size w9 (.slice a9 cl.length c9) cl ∧ Below W8.heap.size W8 w9) := ⟨own9, bel9⟩; have d1 := (H8b.out.2.1.below bel9).c1; have d2 : (w9.alloc (.cells #[.slice a9 cl.length c9] 25)).cell? ⟨D, 1, none⟩ = some (.slice a8 L.length c8) := ((H8b.out.2.1.below bel9).below (below_box _ _)).c1; have R9 : Hid ((w9.alloc (.cells #[.slice a9 cl.length c9] 25)).ownsRow w7.heap.size 25 1 (.slice a8 L.length c8) L.length (L.map Prod.fst) ∧ w7.heap.size ≤ (w9.alloc (.cells #[.slice a9 cl.length c9] 25)).heap.size) := ⟨((H8b.out.1.below bel9).below (below_box _ _)).row, Nat.le_trans H8b.out.2.2.1.size (Nat.le_trans bel9.size (below_box _ _).size)⟩; have N9 : Hid (∀ j x, [Value.slice a9 cl.length c9][j]? = some x → (w9.alloc (.cells #[.slice a9 cl.length c9] 25)).cell? ((⟨w9.heap.size, 0, none⟩ : Addr).add j) = some x) := one_new w9 _ _; clear own9 bel9; dsimp only)
              | (refine step_append_own rfl (.tmp 61) (.tmp 64) 22 rfl w7.heap.size 25 il (.slice none 0 0) 1 24 Tryd.underlying22 HIl.out.1 HIl.out.2.1 HIl.out.2.2.1 HIl.out.2.2.2 rfl (by decide) (.slice a8 L.length c8) L.length (L.map Prod.fst) (by simp [Act.eval, Act.put]) R9.out.1 ⟨w9.heap.size, 0, none⟩ 1 1 [.slice a9 cl.length c9] (by simp [Act.eval, Act.put]) rfl N9.out (by simp [Value.oneCell']) hl63 hl48 R9.out.2 ?_; intro v10 w10 own10 gr10; have F10 : Hid (Bx2 (w10.setCell ⟨D, 1, none⟩ v10) D 24 (.int .i64 n) v10 ∧ OwnF w7.heap.size (w10.setCell ⟨D, 1, none⟩ v10) v10 (css ++ [cl]) ∧ Below w7.heap.size w7 (w10.setCell ⟨D, 1, none⟩ v10)) := (HApp.out w9 a9 c9 v10 w10 O9.out.1 O9.out.2 own10 gr10).2.2.2.2; obtain ⟨⟨a10, c10, hv10⟩, q1, q2, q3, -⟩ := HApp.out w9 a9 c9 v10 w10 O9.out.1 O9.out.2 own10 gr10; subst hv10; clear own10 gr10))
            all_goals
              go_wp2_with fail
              go_meet
              exact ⟨_, F10.out.1, F10.out.2.1, F10.out.2.2⟩
          case rest =>
          obtain ⟨v10, bx10, own10, bel10⟩ := hcut
          have HWc : Hid (Below W0.heap.size W0 wc) := Below.step H5.out.2.2.2.1 (Below.step F7.out.2 bel10)
          have H10 : Hid (Rds wc v10 (css ++ [cl]) ∧ Rd wc (.slice a7 (facts ++ [x]).length c7) (facts ++ [x])) := ⟨own10.rds (by have := H8.out.2.2.2.2; simp; omega) (fun z hz => by
            rcases List.mem_append.1 hz with q | q
            · exact H8.out.2.1 z q
            · rw [show z = cl by simpa using q]; have := H8.out.2.2.2.1; omega), (F7.out.1.rd (by have := H8.out.2.2.1; simp; omega)).below bel10⟩
          obtain ⟨a10, c10, e10⟩ := ownf_form own10
          subst e10
          have b10 := bx10.c1
          have b11 := bx10.c0
          have H5c : Hid (Own W0.heap.size wc (.slice a5 D5.length c5) D5) := H5.out.2.1.below (Below.step F7.out.2 bel10)
          clear bx10 own10 bel10 HApp HCI HIl H8b HLl HL b1 hil hzl0 hzl1 hzl2 hl63 hl48 hlL hD8
          generalize wc = w10 at *
          have HCall : Hid (Calls Tryd.prog 7 #[.agg #[.int .i64 n, .slice a10 (css.length + 1) c10], .slice a7 (facts.length + 1) c7] w10 fun e w' => ∃ u clash D, e = .returned (.tuple #[u, .bool clash, .int .i64 (cloE n (css ++ [cl]) (facts ++ [x]))]) ∧ Clz w10 w' n (css ++ [cl]) (facts ++ [x]) u clash D) := by
            have e1 : (css ++ [cl]).length = css.length + 1 := by simp
            have e2 : (facts ++ [x]).length = facts.length + 1 := by simp
            rw [← e1, ← e2]
            exact uClose_any n _ _ (css ++ [cl]) (facts ++ [x]) w10 H10.out.1 H10.out.2 HR.out.2.2.2.2.2 (HR.out.2.2.2.1.below (Below.step HB1.out HWc.out))
          have e1 : (css ++ [cl]).length = css.length + 1 := by simp
          rw [e1] at b10
          clear e1
          go_wp2_with fail
          refine HCall.out.mono ?_
          rintro e w11 ⟨u11, cl11, M, rfl, cz11⟩
          rw [HC0.out.2]
          obtain ⟨hg1, hg2⟩ := grows6 H5.out.1 (cz11.yes HC0.out.2)
          have HG : Hid (cl11 = false → (∀ y ∈ D5, y ∈ M) ∧ x ∈ M) := hg2
          have H11 : Hid (Rd w11 u11 M ∧ Below W0.heap.size W0 w11 ∧ Own W0.heap.size w11 (.slice a5 D5.length c5) D5) := ⟨cz11.own.rd (by have := clz_len6 cz11; omega), Below.step HWc.out cz11.bel, H5c.out.below cz11.bel⟩
          obtain ⟨a11, c11, e11⟩ := own_form cz11.own
          subst e11
          clear cz11 hg2 b10 b11
          cases cl5
          · obtain ⟨k6, k7⟩ := HX0.out w11 H11.out.2.1
            go_wp2_with fail
            refine (copyFormula_any n s css w11 (HR.out.1.below (Below.step HB1.out H11.out.2.1))).mono ?_
            rintro e w12 ⟨u12, rfl, own12, bel12⟩
            have H12 : Hid (Rds w12 u12 css ∧ Below w11.heap.size w11 w12) := ⟨own12.rds H8.out.1 H8.out.2.1, bel12⟩
            obtain ⟨a12, c12, e12⟩ := ownf_form own12
            subst e12
            clear own12 bel12 k6 k7
            have HRd5 : Hid (∀ W, Below w11.heap.size w11 W → Rd W (.slice a5 D5.length c5) D5) := fun W hW => (H11.out.2.2.below hW).rd (by have := H5.out.2.2.1; omega)
            go_wp2_with fail
            refine (copyInts_any _ D5 w12 (HRd5.out w12 H12.out.2)).mono ?_
            rintro e w13 ⟨u13, rfl, own13, bel13⟩
            have H13 : Hid (Rds w13 (.slice a12 css.length c12) css ∧ Rd w13 u13 D5 ∧ Below w11.heap.size w11 w13) := ⟨H12.out.1.below bel13, own13.rd (by have := H5.out.2.2.1; omega), Below.step H12.out.2 bel13⟩
            obtain ⟨a13, c13, e13⟩ := own_form own13
            subst e13
            clear own13 bel13 H12
            go_wp2_with fail
            refine (uClose_any n _ _ css D5 w13 H13.out.1 H13.out.2.1 HR.out.2.2.2.2.1 (HR.out.2.2.2.1.below (Below.step HB1.out (Below.step H11.out.2.1 H13.out.2.2)))).mono ?_
            rintro e w14 ⟨u14, cl14, A, rfl, cz14⟩
            have hE14 : cloE n css D5 = 0 := by
              have : D5.all fmd = true := List.all_eq_true.2 H5.out.2.2.2.2
              unfold cloE; rw [HFm.out, this]; rfl
            obtain ⟨rfl, rfl⟩ := again6 H5.out.1 (cz14.yes hE14)
            have H14 : Hid (Rd w14 u14 A ∧ Below w11.heap.size w11 w14) := ⟨cz14.own.rd (by have := H5.out.2.2.1; omega), Below.step H13.out.2.2 cz14.bel⟩
            obtain ⟨a14, c14, e14⟩ := own_form cz14.own
            subst e14
            clear cz14 hE14 H13
            have HSame : Hid (Calls Tryd.prog 13 #[.slice a14 A.length c14, .slice a5 A.length c5] w14 fun e w' => e = .returned (.bool true) ∧ Below w14.heap.size w14 w') := by
              have := sameInts_any _ _ A A w14 H14.out.1 (HRd5.out w14 H14.out.2)
              rw [show (A == A) = true by simp] at this
              exact this
            generalize cloE n css A = E14 at *
            go_wp2_with fail
            refine HSame.out.mono ?_
            rintro e w15 ⟨rfl, bel15⟩
            have H15 : Hid (Below w11.heap.size w11 w15) := Below.step H14.out.2 bel15
            clear bel15 HSame
            cases cl11
            · obtain ⟨hsub, hxm⟩ := HG.out rfl
              have HSub : Hid ((∀ y ∈ A, M.contains y = true) ∧ M.contains x = true) := ⟨fun y hy => List.contains_iff_mem.2 (hsub y hy), List.contains_iff_mem.2 hxm⟩
              have HLA : Hid (A.length ≤ 2097152) := H5.out.2.2.1
              have hlA := HLA.out
              have HRm : Hid (Rd w15 (.slice a11 M.length c11) M) := H11.out.1.below H15.out
              obtain ⟨ax, cx, ex, hx1, hx2, hcx⟩ := (HRd5.out w15 H15.out).form
              injection ex with ex1 _ ex3
              subst ex1; subst ex3
              have HCx : Hid (∀ j, j < A.length → ∃ bb off, a5 = some ⟨bb, off, none⟩ ∧ w15.cell? ⟨bb, off + j, none⟩ = some (.int .i64 (A.getD j 0))) := hcx
              clear hsub hxm hcx
              go_wp2
              go_loopg [20] A.length (fun q i' wr => ∃ k : Nat, k + q = A.length ∧ i' = .int .i64 k ∧ wr = w15)
              case atStart => exact ⟨0, by omega, rfl, rfl⟩
              case round =>
                obtain ⟨k, hk, rfl, hwr⟩ := hrel
                obtain rfl : w15 = wr := hwr.symm
                have HK : Hid (k + gk = A.length) := hk
                clear hwr hk
                by_cases hlt : k < A.length
                · obtain ⟨bb, off, rfl, kc⟩ := HCx.out k hlt
                  have HLT : Hid (k < A.length) := hlt
                  have HIn : Hid (M.contains (A.getD k 0) = true) := HSub.out.1 _ (getD_mem' hlt)
                  generalize A.getD k 0 = y at *
                  go_wp2_with fail
                  refine (hasInt6_any _ M y w15 HRm.out).mono ?_
                  rintro e w16 ⟨rfl, hw16⟩
                  obtain rfl : w15 = w16 := hw16.symm
                  rw [HIn.out]
                  clear hw16
                  go_wp2
                  go_roundg (gk - 1)
                  case measure => have := HK.out; have := HLT.out; omega
                  case rel => exact ⟨k + 1, by have := HK.out; have := HLT.out; omega, by go_num, rfl⟩
                · go_wp2_with fail
                  refine (hasInt6_any _ M x w15 HRm.out).mono ?_
                  rintro e w16 ⟨rfl, hw16⟩
                  obtain rfl : w15 = w16 := hw16.symm
                  rw [HSub.out.2]
                  clear hw16
                  go_wp2_with fail
                  refine (HAw.out w15 (Below.step HB1.out (Below.step H11.out.2.1 H15.out))).mono ?_
                  rintro e w9 ⟨rfl, bel9⟩
                  have HF : Hid (Below w.heap.size w w9) := bel9
                  clear bel9
                  go_wp2
                  go_ret
                  exact ⟨rfl, HF.out⟩
            · go_wp2_with fail
              refine (HAw.out w15 (Below.step HB1.out (Below.step H11.out.2.1 H15.out))).mono ?_
              rintro e w9 ⟨rfl, bel9⟩
              have HF : Hid (Below w.heap.size w w9) := bel9
              clear bel9
              go_wp2
              go_ret
              exact ⟨rfl, HF.out⟩
          · have hc11 : cl11 = true := hg1 rfl
            subst hc11
            go_wp2_with fail
            refine (HAw.out w11 (Below.step HB1.out H11.out.2.1)).mono ?_
            rintro e w9 ⟨rfl, bel9⟩
            have HF : Hid (Below w.heap.size w w9) := bel9
            clear bel9
            go_wp2
            go_ret
            exact ⟨rfl, HF.out⟩
end unitGrows
end Go.Proofs.YtfjdgjmfihgjhabDoor
