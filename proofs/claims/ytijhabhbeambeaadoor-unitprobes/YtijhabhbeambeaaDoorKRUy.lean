/-
  unit, the document's answer: Why; and same.
  KEEP: set on app at below new trans refl start ap kept rd rds mono lt add none own nil put len pos setF setV putL putR other neV same_any
-/
import Derived.Test.YtijhabhbeambeaaDoorKRUw
set_option linter.unusedSimpArgs false
set_option linter.unusedVariables false
namespace Go.Proofs.YtijhabhbeambeaaDoor
open Go Go.RowKit

theorem Pth.upt {css : List (List Int)} {L : List Int} {cs : List (Int × Nat)} {t : Nat} (h : Pth css L cs) (hL : Upt t L) (hc : ∀ c ∈ css, Upt t c) : Upt t (L ++ cs.map Prod.fst) := fun l hl => by
  rcases List.mem_append.1 hl with a | a
  · exact hL l a
  · obtain ⟨c, h1, h2⟩ := h.new.2.2 l a
    exact hc c h1 l h2
set_option maxRecDepth 100000 in
set_option maxHeartbeats 2000000 in
theorem rWhy_any (v : Int) (s vf : Value) (css : List (List Int)) (facts : List Int) (w : World) (hr : Rds w s css) (hf : Rd w vf facts) :
    Calls Tryd.prog 17 #[.agg #[.int .i64 v, s], vf] w fun e w' => ∃ u cs e0, e = .returned (.tuple #[u, .int .i64 e0, .int .i64 (whyE v css facts)]) ∧ Wy w w' v css facts u cs e0 := by
  have HR : Hid (Rds w s css ∧ Rd w vf facts) := ⟨hr, hf⟩
  obtain ⟨af, cf, rfl, hl1, hl2, -⟩ := hf.form
  obtain ⟨aS, cS, rfl, hl3, hl4, -⟩ := hr.form
  have HNo : Hid (∀ w', Below w.heap.size w w' → ∀ x : Int, whyE v css facts = x → x ≠ 0 → ∃ u cs e0, Ending.returned (.tuple #[.slice none 0 0, .int .i64 0, .int .i64 x]) = .returned (.tuple #[u, .int .i64 e0, .int .i64 (whyE v css facts)]) ∧ Wy w w' v css facts u cs e0) := fun w' hb x hx hx0 => ⟨_, [], 0, by rw [hx], ⟨World.ownsRow_nil _ _ _ _, fun h => absurd (hx.symm.trans h) hx0, fun _ => ⟨rfl, rfl, rfl⟩, hb⟩⟩
  have HB1 : Hid (Below w.heap.size w (w.alloc (.cells #[.int .i64 v, .slice aS css.length cS] 24))) := below_box _ _
  have k0 := box0 w (.int .i64 v) (.slice aS css.length cS) 24
  have k1 := box1 w (.int .i64 v) (.slice aS css.length cS) 24
  have hbs : w.heap.size < (w.alloc (.cells #[.int .i64 v, .slice aS css.length cS] 24)).heap.size := by rw [World.size_alloc]; exact Nat.lt_succ_self _
  have HX0 : Hid (∀ W, Below (w.alloc (.cells #[.int .i64 v, .slice aS css.length cS] 24)).heap.size (w.alloc (.cells #[.int .i64 v, .slice aS css.length cS] 24)) W → W.cell? ⟨w.heap.size, 0, none⟩ = some (.int .i64 v) ∧ W.cell? ⟨w.heap.size, 1, none⟩ = some (.slice aS css.length cS)) := fun W hW => ⟨(hW.cell (p := ⟨w.heap.size, 0, none⟩) hbs).trans k0, (hW.cell (p := ⟨w.heap.size, 1, none⟩) hbs).trans k1⟩
  clear hr hf k0 k1 hbs
  go_enter Tryd.func17, Tryd.ntmps17
  go_wp2_with fail
  refine (rFormed_any v _ css _ (HR.out.1.below (below_box _ _))).mono ?_
  rintro e w1 ⟨rfl, bel1⟩
  generalize w.alloc (.cells #[.int .i64 v, .slice aS css.length cS] 24) = W0 at *
  have HBx : Hid (Below W0.heap.size W0 w1) := bel1
  clear bel1
  cases hfm : frm v css
  · have HE : Hid (whyE v css facts = 1) := by show _ = _; unfold whyE; rw [hfm]; rfl
    go_wp2
    go_ret3
    exact HNo.out _ (Below.step HB1.out HBx.out) 1 HE.out (by decide)
  · go_wp2_with fail
    refine (rSound_any _ facts w1 (HR.out.2.below (Below.step HB1.out HBx.out))).mono ?_
    rintro e w2 ⟨rfl, hw2⟩
    obtain rfl : w1 = w2 := hw2.symm
    clear hw2
    cases hsd : facts.all fmd
    · have HE : Hid (whyE v css facts = 1) := by show _ = _; unfold whyE; rw [hfm, hsd]; rfl
      go_wp2
      go_ret3
      exact HNo.out _ (Below.step HB1.out HBx.out) 1 HE.out (by decide)
    · obtain ⟨k0, k1⟩ := HX0.out w1 HBx.out
      go_wp2_with fail
      refine (rGiven_any v _ _ css facts w1 (HR.out.1.below (Below.step HB1.out HBx.out)) (HR.out.2.below (Below.step HB1.out HBx.out)) hfm hsd).mono ?_
      rintro e w2 ⟨g, rfl, hvz, bel2⟩
      have HB2 : Hid (Below W0.heap.size W0 w2) := Below.step HBx.out bel2
      cases had : adj (tid facts)
      · have HE : Hid (whyE v css facts = 0) := by show _ = _; unfold whyE; rw [hfm, hsd, had]; rfl
        have HCon : Hid (Con facts) := (adj_con hsd).1 had
        have HUp : Hid (Upt (topL css facts).toNat facts ∧ (∀ c ∈ css, Upt (topL css facts).toNat c) ∧ (topL css facts).toNat ≤ 1048576) := ⟨upt_facts hsd, upt_css hfm, by have := (top_range css facts).2.1; omega⟩
        have HFm : Hid (frm v css = true) := hfm
        have HVz : Hid (Vz W0.heap.size w2 g ((topL css facts).toNat + 1) (topL css facts).toNat (facts ++ ([] : List (Int × Nat)).map Prod.fst) ∧ W0.heap.size ≤ g) := ⟨by rw [List.map_nil, List.append_nil]; exact row_mono (hvz had) HBx.out.size, Nat.le_trans HBx.out.size ((hvz had).lt g rfl).1⟩
        obtain ⟨iC, hiC, hC0, hC1, hC2⟩ := info_parts Tryd.infoCause
        have HI : Hid (Tryd.prog.info? 78 = some iC ∧ iC.zero = some (.agg #[.int .i64 0, .int .i64 0]) ∧ iC.size = 2 ∧ iC.bytes = 16) := ⟨hiC, hC0, hC1, hC2⟩
        clear hvz bel2 hfm hsd had k0 k1 hiC hC0 hC1 hC2
        generalize (topL css facts).toNat = T at *
        go_wp2
        go_loopg [9] (mes css facts) (fun q o' wr => ∃ cs, q = mes css (facts ++ cs.map Prod.fst) ∧ Pth css facts cs ∧ Vz W0.heap.size wr g (T + 1) T (facts ++ cs.map Prod.fst) ∧ wr.ownsRow W0.heap.size 78 2 o' cs.length (twc cs) ∧ Below W0.heap.size W0 wr)
        case atStart => exact ⟨[], by simp, trivial, HVz.out.1, World.ownsRow_nil _ _ _ _, HB2.out⟩
        case round =>
          obtain ⟨cs, hq, hp, hv, ho, hb⟩ := hrel
          have HQ : Hid (gk = mes css (facts ++ cs.map Prod.fst)) := hq
          have HS : Hid (Pth css facts cs ∧ Vz W0.heap.size wr g (T + 1) T (facts ++ cs.map Prod.fst) ∧ wr.ownsRow W0.heap.size 78 2 u9 cs.length (twc cs) ∧ Below W0.heap.size W0 wr) := ⟨hp, hv, ho, hb⟩
          obtain ⟨ao, co, eo⟩ := row_form' ho
          have HCn : Hid (Con (facts ++ cs.map Prod.fst)) := Pth.con HCon.out hp
          obtain ⟨k0, k1⟩ := HX0.out wr hb
          clear hq hp hv ho hb
          subst eo
          have HRs : Hid (∀ W, Below W0.heap.size W0 W → Rds W (.slice aS css.length cS) css) := fun W hW => HR.out.1.below (Below.step HB1.out hW)
          go_wp2_with fail
          refine (rFirst_any v _ _ css T (facts ++ cs.map Prod.fst) wr (HRs.out wr HS.out.2.2.2) (HS.out.2.1.rd HUp.out.2.2) HUp.out.2.2 HUp.out.2.1 HCn.out).mono ?_
          rintro e w3 ⟨i, kk, o, rfl, hfs, bel3⟩
          have HS3 : Hid (Vz W0.heap.size w3 g (T + 1) T (facts ++ cs.map Prod.fst) ∧ w3.ownsRow W0.heap.size 78 2 (.slice ao cs.length co) cs.length (twc cs) ∧ Below W0.heap.size W0 w3) := ⟨HS.out.2.1.below bel3, row_kept HS.out.2.2.1 fun k hk => bel3.block k (HS.out.2.2.1.lt k hk.symm).2, Below.step HS.out.2.2.2 bel3⟩
          have HWy : Hid (∀ e0, End css (facts ++ cs.map Prod.fst) e0 → Wy w w3 v css facts (.slice ao cs.length co) cs e0) := fun e0 he => ⟨row_mono HS3.out.2.1 HB1.out.size, fun _ => ⟨HS.out.1, he⟩, fun h => absurd HE.out h, Below.step HB1.out HS3.out.2.2⟩
          clear bel3 k0 k1
          rcases hfs with ⟨j, hat, rfl, rfl, rfl⟩ | ⟨j, l, hl0, hat, rfl, rfl, rfl⟩ | ⟨hcalm, rfl, rfl, rfl⟩
          · have HF : Hid (Wy w w3 v css facts (.slice ao cs.length co) cs (j : Int)) := HWy.out _ (.inr ⟨j, rfl, hat⟩)
            clear hat
            go_wp2
            go_ret3
            exact ⟨_, cs, _, by rw [HE.out]; rfl, HF.out⟩
          · have HA : Hid (At css (facts ++ cs.map Prod.fst) j o ∧ o ≠ 0) := ⟨hat, hl0⟩
            obtain ⟨u1, u2, u3, u4⟩ := hat.unit hl0
            have HO : Hid (fmd o = true ∧ o.natAbs ≤ T ∧ -o ∉ facts ++ cs.map Prod.fst ∧ o ∈ css.getD j [] ∧ o ∉ facts ++ cs.map Prod.fst) := ⟨(HUp.out.2.1 _ (getD_in hat.lt) o u1).1, (HUp.out.2.1 _ (getD_in hat.lt) o u1).2, u2, u1, u3⟩
            have HZ : Hid ((0 : Int) ∉ facts ++ cs.map Prod.fst) := (HS.out.1.upt HUp.out.1 HUp.out.2.1).zero
            have hjb : j ≤ 5864062014805 := by have h1 := HR.out.1.len; have h2 := hat.lt; omega
            have HLen : Hid (cs.length ≤ 2097152) := by
              obtain ⟨h1, h2, h3⟩ := HS.out.1.new
              have := lits_few h1 fun x hx => by obtain ⟨c, hc, hxc⟩ := h3 x hx; exact (HUp.out.2.1 c hc x hxc).1
              show cs.length ≤ 2097152
              simpa using this
            clear hat u1 u2 u3 u4
            go_wp2_with fail
            refine (rPut_any W0.heap.size g (T + 1) T (facts ++ cs.map Prod.fst) o w3 HS3.out.1 HUp.out.2.2 HO.out.1 HO.out.2.2.1 HZ.out HO.out.2.1).mono ?_
            rintro e w4 ⟨rfl, hv4, hg4⟩
            have hrow4 : w4.ownsRow W0.heap.size 78 2 (.slice ao cs.length co) cs.length (twc cs) := row_other HS3.out.2.1 hg4 (fun x e => by injection e with e; subst e; exact row_ty HS3.out.1 rfl) (by decide)
            have HS4 : Hid (Vz W0.heap.size (w4.alloc (.cells #[.int .i64 o, .int .i64 (j : Int)] 78)) g (T + 1) T (facts ++ cs.map Prod.fst ++ [o]) ∧ (w4.alloc (.cells #[.int .i64 o, .int .i64 (j : Int)] 78)).ownsRow W0.heap.size 78 2 (.slice ao cs.length co) cs.length (twc cs) ∧ Below W0.heap.size W0 (w4.alloc (.cells #[.int .i64 o, .int .i64 (j : Int)] 78))) := by
              have hb4 : Below W0.heap.size W0 w4 := HS3.out.2.2.grown hg4 HS3.out.2.2.size (fun q e => by injection e with e; subst e; exact HVz.out.2)
              exact ⟨hv4.below (below_box _ _), row_kept hrow4 fun k hk => (below_box w4 _).block k (hrow4.lt k hk.symm).2, Below.step hb4 (below_box _ _)⟩
            have HB2 : Hid (∀ q x, [Value.int .i64 o, Value.int .i64 (j : Int)][q]? = some x → (w4.alloc (.cells #[.int .i64 o, .int .i64 (j : Int)] 78)).cell? ((⟨w4.heap.size, 0, none⟩ : Addr).add q) = some x) := fun q x hx => by
              rw [Addr.add_lit]
              have hh := World.alloc_heap_new w4 (.cells #[.int .i64 o, .int .i64 (j : Int)] 78)
              show (match (w4.alloc (.cells #[.int .i64 o, .int .i64 (j : Int)] 78)).heap[w4.heap.size]? with | some (Obj.cells c elem frozen) => c[0 + q]? | x => none) = _
              rw [hh]
              simpa using hx
            have HApp : Hid (∀ v8 w8, w8.ownsRow W0.heap.size 78 2 v8 (cs.length + 1) (twc cs ++ [.int .i64 o, .int .i64 (j : Int)]) → Ap (w4.alloc (.cells #[.int .i64 o, .int .i64 (j : Int)] 78)) (.slice ao cs.length co) w8 v8 → Vz W0.heap.size w8 g (T + 1) T (facts ++ (cs ++ [(o, j)]).map Prod.fst) ∧ w8.ownsRow W0.heap.size 78 2 v8 (cs ++ [(o, j)]).length (twc (cs ++ [(o, j)])) ∧ Below W0.heap.size W0 w8) := fun v8 w8 own8 ap8 => by
              have ht : ∀ x, (Value.slice ao cs.length co).ownBlock = some x → Ty _ x 78 := fun x e => row_ty HS4.out.2.1 e.symm
              refine ⟨?_, by rw [twc_snoc, List.length_append]; exact own8, HS4.out.2.2.grown ap8.grown HS4.out.2.2.size (fun q e => (HS4.out.2.1.lt q e).1)⟩
              rw [Pth.snocL (css := css)]
              exact row_other HS4.out.1 ap8.grown ht (by decide)
            have hl63 : cs.length + 1 ≤ maxLen := by have := HLen.out; unfold maxLen; omega
            have hl48 : (cs.length + 1) * 16 ≤ 140737488355328 := by have := HLen.out; omega
            clear hv4 hg4 hrow4
            generalize hM : cs.length = M at *
            have HM : Hid (cs.length = M) := hM
            clear hM
            generalize htw : twc cs = tw at *
            clear htw
            go_wp2_with (at_builtin; refine wpList_append_apk rfl _ _ 40 rfl W0.heap.size 78 iC (.agg #[.int .i64 0, .int .i64 0]) 2 16 Tryd.underlying40 HI.out.1 HI.out.2.1 HI.out.2.2.1 HI.out.2.2.2 rfl (by decide) (.slice ao M co) M tw rfl HS4.out.2.1 ⟨w4.heap.size, 0, none⟩ 1 1 [.int .i64 o, .int .i64 (j : Int)] rfl rfl HB2.out (by simp [Value.oneCell']) hl63 hl48 HS4.out.2.2.size ?_; intro v8 w8 own8 ap8; have HF8 : Hid (_ ∧ _) := HApp.out v8 w8 own8 ap8; obtain ⟨a8, c8, hv8⟩ := row_form' own8; subst hv8; clear own8 ap8)
            go_roundg (mes css (facts ++ (cs ++ [(o, j)]).map Prod.fst))
            case measure =>
              rw [HQ.out, Pth.snocL (css := css)]
              exact filter_lt (x := o) (fun y _ hy => by
                rw [decide_eq_true_eq] at hy ⊢
                exact fun h2 => hy (List.mem_append.2 (.inl h2))) (List.mem_flatten.2 ⟨_, getD_in HA.out.1.lt, HO.out.2.2.2.1⟩) (decide_eq_true HO.out.2.2.2.2) (by simp)
            case rel => exact ⟨cs ++ [(o, j)], rfl, HS.out.1.snoc HA.out.1 HA.out.2, HF8.out.1, HF8.out.2.1, HF8.out.2.2⟩
          · have HF : Hid (Wy w w3 v css facts (.slice ao cs.length co) cs (-1)) := HWy.out _ (.inl ⟨rfl, hcalm⟩)
            clear hcalm
            go_wp2
            go_ret3
            exact ⟨_, cs, _, by rw [HE.out]; rfl, HF.out⟩
      · have HE : Hid (whyE v css facts = 20) := by show _ = _; unfold whyE; rw [hfm, hsd, had]; rfl
        clear hvz
        go_wp2
        go_ret3
        exact HNo.out _ (Below.step HB1.out HB2.out) 20 HE.out (by decide)
end Go.Proofs.YtijhabhbeambeaaDoor
