/-
  The document's Parse, walked.
  KEEP: box own below mono lt set kept new trans refl app on grown cell out block size os tape output c f c0 c1 f0 f1 len nil form rd rdz low set0 set1 set2 not_row at cut drop row ap bel oz bx ge lit fin tx eu
-/
import Derived.Test.YtaipajalkendaaaDoorPaM
set_option linter.unusedSimpArgs false
set_option linter.unusedVariables false
namespace Go.Proofs.YtaipajalkendaaaDoor
open Go Go.RowKit

/-- what Parse leaves -/
def ParP (w : World) (r : List Stp × Nat) (e : Ending) (w' : World) : Prop :=
  ∃ v L, e = .returned (.tuple #[v, .int .i64 (r.2 : Int)]) ∧ OwnZ w.heap.size w' v L ∧ svS L = r.1 ∧ Below w.heap.size w w'
theorem ParP.mk {w w' : World} {r : List Stp × Nat} {v : Value} {L : List SV} {k : Int} (hk : k = (r.2 : Int)) (hL : svS L = r.1) (ho : OwnZ w.heap.size w' v L) (hb : Below w.heap.size w w') : ParP w r (.returned (.tuple #[v, .int .i64 k])) w' := ⟨v, L, by rw [hk], ho, hL, hb⟩

set_option maxHeartbeats 6400000 in
set_option maxRecDepth 100000 in
theorem rParse_any (s : ByteArray) (w : World) (hs : s.size ≤ 1099511627776) :
    Calls Tryd.prog 38 #[.string s] w (ParP w (parD s.data.toList)) := by
  obtain ⟨i0, hi, hz0, hz1, hz2⟩ := info_parts Tryd.info3
  obtain ⟨il, hil, hzl0, hzl1, hzl2⟩ := info_parts infoZ
  have HLn : Hid (Calls Tryd.prog 26 #[.string s] w fun e w' => ∃ v, e = .returned v ∧ OwnL w.heap.size w' v (lnsF s.data.toList []) ∧ Below w.heap.size w w') := rLines_any s w hs
  have h1 := lns_len s.data.toList []
  have h2 := lns_sum s.data.toList []
  rw [List.length_nil, Nat.add_zero, ba_len] at h1 h2
  have HX : Hid (finP (lnsF s.data.toList []).length [] (eatD (toks 1 (lnsF s.data.toList [])) st0) = parD s.data.toList) := par_finP _
  generalize parD s.data.toList = X at *
  generalize lnsF s.data.toList [] = ls at *
  have hlen : ls.length ≤ 1099511627776 := by omega
  have HSum : Hid (lenS ls ≤ 1099511627776) := by show _ ≤ _; omega
  clear h1 h2
  go_enter Tryd.func38, Tryd.ntmps38
  go_wp2_with fail
  refine HLn.out.mono ?_
  rintro e w1 ⟨lv, rfl, ol, bel1⟩
  have HOL : Hid (OwnL w.heap.size w1 lv ls) := ol
  obtain ⟨la, lc, rfl, hlc, hlm, _⟩ := ol.form
  clear ol HLn
  have PZ0 : Hid (Pz w w1.heap.size [(.slice la ls.length lc, ls)] (w1.alloc (.cells #[.bool false, .slice none 0 0] 41)) (.slice none 0 0) [] false (.slice none 0 0) []) :=
    ⟨OwnZ.nil _ _, Bx2.new _ _ _ _, World.ownsRow_nil _ _ _ _, (fun x hx => by cases hx), bel1.alloc bel1.size _, bel1.size, (fun h => by cases h), fun t ht => by
      obtain rfl : t = (.slice la ls.length lc, ls) := by simpa using ht
      exact HOL.out.below (below_box _ _)⟩
  go_wp2
  generalize w1.alloc (.cells #[.bool false, .slice none 0 0] 41) = w2 at *
  generalize w1.heap.size = E at *
  clear bel1 HOL
  go_loopg [4, 6, 8] ls.length (fun g u b i wr => ∃ (k : Nat) (L : List SV) (op d : Bool) (cv : Value) (cl : List Int), k + g = ls.length ∧ i = .int .i64 k ∧ b = .bool op ∧ L.length + cl.length + lenS (ls.drop k) ≤ 1099511627776 ∧ Hid (finP ls.length (svS L) (eatD (toks (k + 1) (ls.drop k)) ⟨op, d, cl⟩) = X) ∧ Hid (Pz w E [(.slice la ls.length lc, ls)] wr u L d cv cl))
  case atStart => exact ⟨0, [], false, false, _, [], by omega, rfl, rfl, by simpa using HSum.out, HX.out, PZ0.out⟩
  case round =>
    clear HX PZ0
    obtain ⟨k, L, op, d, cv, cl, hk, rfl, rfl, hw, HX, PZ⟩ := hrel
    have HK : Hid (k + gk = ls.length) := hk
    have HW : Hid (L.length + cl.length + lenS (ls.drop k) ≤ 1099511627776) := hw
    by_cases hlt : k < ls.length
    · obtain ⟨_, _, e', _, _, hcell⟩ := (PZ.out.tx (.slice la ls.length lc, ls) (by simp)).form
      obtain ⟨g, hg, hgl, hc0⟩ := hcell k hlt
      have e3 : la = some ⟨g, 0, none⟩ := by injection e' with q1 q2 q3; rw [q1]; exact hg
      clear hcell e' hg
      subst e3
      have HD : Hid (ls.drop k = ls.getD k [] :: ls.drop (k + 1)) := getD_drop ls [] hlt
      have HLe : Hid ((ls.getD k []).length ≤ 1099511627776) := by
        have h1 := lenS_each ls (ls.getD k []) (by rw [List.getD_eq_getElem?_getD, List.getElem?_eq_getElem hlt]; exact List.getElem_mem hlt)
        have h2 := HSum.out
        show _ ≤ _
        omega
      have HWx : Hid (L.length + cl.length + (ls.getD k []).length + lenS (ls.drop (k + 1)) ≤ 1099511627776) := by
        have h1 := HW.out
        rw [HD.out, lenS_cons] at h1
        show _ ≤ _
        omega
      generalize ls.getD k [] = ln at *
      obtain ⟨b, hb⟩ : ∃ b : ByteArray, b = ⟨ln.toArray⟩ := ⟨_, rfl⟩
      have HB : Hid (b.data.toList = ln) := by show _ = _; rw [hb]
      have hc1 : wr.cell? ⟨g, k, none⟩ = some (.string b) := by rw [hc0, hb]; rfl
      have hbs : b.size ≤ 1099511627776 := by rw [← ba_len, HB.out]; exact HLe.out
      clear hc0 hb hw hk
      by_cases hh : ln.head? = some 99
      · have hb0 : 0 < b.size := by
          rcases Nat.eq_zero_or_pos b.size with h | h
          · have : b.data.toList = [] := List.length_eq_zero_iff.1 (by rw [ba_len]; exact h)
            rw [HB.out] at this; rw [this] at hh; cases hh
          · exact h
        have hq : ((b[0].toNat : Int) == 99) = true := by
          have := ba_head hb0
          rw [HB.out, hh] at this
          have e : b[0] = 99 := by simpa using this.symm
          rw [e]; rfl
        have HRm := remark_any b wr hbs
        rw [HB.out] at HRm
        cases hp : ln.all plB
        · have HX2 : Hid (X = (svS L, k + 1)) := by show _ = _; rw [← HX.out, fin_bad HD.out hh hp]
          rw [hp] at HRm
          have HRm : Hid (Calls Tryd.prog 55 #[.string b] wr fun e w' => e = .returned (.bool false) ∧ w' = wr) := HRm
          clear hh hp
          go_wp2_with (go_at_call 55; refine HRm.out.mono ?_; rintro e w3 ⟨rfl, rfl⟩)
          go_returns
          rw [HX2.out]
          exact ParP.mk (by simp) rfl PZ.out.oz PZ.out.bel
        · have HX2 : Hid (finP ls.length (svS L) (eatD (toks (k + 1 + 1) (ls.drop (k + 1))) ⟨op, d, cl⟩) = X) := by show _ = _; rw [← HX.out, fin_rem HD.out hh hp]
          rw [hp] at HRm
          have HRm : Hid (Calls Tryd.prog 55 #[.string b] wr fun e w' => e = .returned (.bool true) ∧ w' = wr) := HRm
          clear hh hp
          go_wp2_with (go_at_call 55; refine HRm.out.mono ?_; rintro e w3 ⟨rfl, rfl⟩)
          go_roundg (gk - 1)
          case measure => have := HK.out; omega
          case rel => exact ⟨k + 1, L, op, d, cv, cl, by have := HK.out; omega, by go_num, rfl, by have := HWx.out; omega, HX2.out, PZ.out⟩
      · have HL2 : Hid (finP ls.length (svS L) (eatD (tokR (k + 1) (wdsF ln []) (ls.drop (k + 1))) ⟨op, d, cl⟩) = X) := by show _ = _; rw [← HX.out, fin_line HD.out hh]
        have HWd := rWords_any b wr hbs
        rw [HB.out] at HWd
        have HEa : Hid (∀ x ∈ wdsF ln [], x.length ≤ 1099511627776) := fun x hx => by have h1 := wds_each ln [] x hx; have h2 := HLe.out; simp at h1; omega
        have hwl : (wdsF ln []).length ≤ ln.length := by have := wds_len ln []; simpa using this
        have HWl : Hid (L.length + cl.length + ((wdsF ln []).length - 0) + lenS (ls.drop (k + 1)) ≤ 1099511627776) := by have := HWx.out; show _ ≤ _; omega
        have hwsl : (wdsF ln []).length ≤ 1099511627776 := by have := HLe.out; omega
        have HQ : Hid ((h : 0 < b.size) → ((b[0].toNat : Int) == 99) = false) := fun h => by
          rw [beq_eq_false_iff_ne]; intro e
          have hy : b[0].toNat < 256 := b[0].toNat_lt
          have h2 : b[0] = 99 := UInt8.toNat_inj.1 ((by omega : b[0].toNat = 99).trans rfl)
          exact hh (by rw [← HB.out, ba_head h, h2])
        generalize wdsF ln [] = ws at *
        have HWd : Hid (Calls Tryd.prog 48 #[.string b] wr fun e w' => ∃ v, e = .returned v ∧ OwnL wr.heap.size w' v ws ∧ Below wr.heap.size wr w') := HWd
        clear hh hwl HX HWx HLe HW HB HD
        have hsz := PZ.out.bel.size
        obtain ⟨G, hG⟩ : ∃ G, G = gk := ⟨gk, rfl⟩
        subst hG
        by_cases hb0 : 0 < b.size
        all_goals
          first | have hq := HQ.out hb0 | skip
          clear HQ
          go_wp2_with fail
          refine HWd.out.mono ?_
          rintro e w3 ⟨wv, rfl, ow, bel3⟩
          have HOW : Hid (OwnL w.heap.size w3 wv ws) := ow.mono hsz
          obtain ⟨wa, wc, rfl, hwc, hwm, _⟩ := ow.form
          have PZ3 : Hid (Pz w E [(.slice wa ws.length wc, ws), (.slice (some ⟨g, 0, none⟩) ls.length lc, ls)] w3 _ L d cv cl) := (PZ.out.below bel3).more HOW.out
          clear ow HWd HOW bel3 PZ hc1
          go_wp2
          go_loopg [4, 6, 10] ws.length (fun g2 u b i wr => ∃ (j : Nat) (L : List SV) (op d : Bool) (cv : Value) (cl : List Int), j + g2 = ws.length ∧ i = .int .i64 j ∧ b = .bool op ∧ L.length + cl.length + (ws.length - j) + lenS (ls.drop (k + 1)) ≤ 1099511627776 ∧ Hid (finP ls.length (svS L) (eatD (tokR (k + 1) (ws.drop j) (ls.drop (k + 1))) ⟨op, d, cl⟩) = X) ∧ Hid (Pz w E [(.slice wa ws.length wc, ws), (.slice (some ⟨g, 0, none⟩) ls.length lc, ls)] wr u L d cv cl))
          case atStart => exact ⟨0, L, op, d, cv, cl, by omega, rfl, rfl, HWl.out, HL2.out, PZ3.out⟩
          case round =>
            clear HL2 PZ3 HWl
            obtain ⟨j, L, op, d, cv, cl, hj, rfl, rfl, hw2, HX, PZ⟩ := hrel
            have HJ : Hid (j + gk = ws.length) := hj
            by_cases hjl : j < ws.length
            · obtain ⟨_, _, e', _, _, hcell⟩ := (PZ.out.tx (.slice wa ws.length wc, ws) (by simp)).form
              obtain ⟨g2, hg2, hgl2, hc2⟩ := hcell j hjl
              have e3 : wa = some ⟨g2, 0, none⟩ := by injection e' with q1 q2 q3; rw [q1]; exact hg2
              clear hcell e' hg2
              subst e3
              have HD : Hid (ws.drop j = ws.getD j [] :: ws.drop (j + 1)) := getD_drop ws [] hjl
              have HLe : Hid ((ws.getD j []).length ≤ 1099511627776) := HEa.out _ (by rw [List.getD_eq_getElem?_getD, List.getElem?_eq_getElem hjl]; exact List.getElem_mem hjl)
              rw [HD.out] at HX
              have HW : Hid (L.length + cl.length + 1 + (ws.length - (j + 1)) + lenS (ls.drop (k + 1)) ≤ 1099511627776) := by show _ ≤ _; omega
              have hLl : L.length ≤ 1099511627776 := by omega
              have hcl : cl.length ≤ 1099511627776 := by omega
              generalize ws.getD j [] = wd at *
              obtain ⟨y, hy⟩ : ∃ y : ByteArray, y = ⟨wd.toArray⟩ := ⟨_, rfl⟩
              have HB : Hid (y.data.toList = wd) := by show _ = _; rw [hy]
              have hc3 : wr.cell? ⟨g2, j, none⟩ = some (.string y) := by rw [hc2, hy]; rfl
              have hys : y.size ≤ 1099511627776 := by rw [← ba_len, HB.out]; exact HLe.out
              have hqd : (y.toList == [100]) = (wd == [100]) := by rw [ByteArray.toList_eq, HB.out]
              have hq0 : (y.toList == [48]) = (wd == [48]) := by rw [ByteArray.toList_eq, HB.out]
              have HLi := fun W => rLit_any y W hys
              rw [HB.out] at HLi
              clear hc2 hy hw2 hj HLe HD
              obtain ⟨ca, cc, hcv⟩ := own_form PZ.out.own
              subst hcv
              by_cases hA : wd = [100]
              · subst hA
                rw [beq_self_eq_true] at hqd
                cases op
                · have HX2 : Hid (finP ls.length (svS L) (eatD (tokR (k + 1) (ws.drop (j + 1)) (ls.drop (k + 1))) ⟨true, true, cl⟩) = X) := by show _ = _; rw [← HX.out, fin_take takeP_d, List.append_nil]
                  have k0 := PZ.out.bx.c0
                  have f0 := PZ.out.bx.f0
                  clear HX HLi
                  go_wp2
                  go_roundg (gk - 1)
                  case measure => have := HJ.out; omega
                  case rel => exact ⟨j + 1, L, true, true, _, cl, by have := HJ.out; omega, by go_num, rfl, by have := HW.out; omega, HX2.out, PZ.out.drop true⟩
                · have HT : Hid (takeW ⟨true, d, cl⟩ [100] = none) := by show _ = _; exact takeP_n rfl (by decide) (by decide)
                  have HX2 : Hid (X = (svS L, k + 1)) := by show _ = _; rw [← HX.out, fin_no HT.out]
                  have HLi : Hid (∀ W : World, Calls Tryd.prog 56 #[.string y] W fun e w' => e = .returned (.bool false) ∧ Below W.heap.size W w') := fun W => HLi W
                  rw [show (([100] : List UInt8) == [48]) = false from rfl] at hq0
                  clear HX HT
                  go_wp2_with (go_at_call 56; refine (HLi.out _).mono ?_; rintro e w4 ⟨rfl, bel4⟩)
                  go_returns
                  rw [HX2.out]
                  have PZ4 := PZ.out.below bel4
                  exact ParP.mk (by simp) rfl PZ4.oz PZ4.bel
              · rw [show (wd == [100]) = false from by simpa using hA] at hqd
                have HA : Hid ((wd == [100] && !op) = false) := by show _ = _; rw [show (wd == [100]) = false from by simpa using hA]; rfl
                by_cases h0 : wd = [48]
                · subst h0
                  rw [beq_self_eq_true] at hq0
                  have HX2 : Hid (finP ls.length (svS (L ++ [(d, .slice ca cl.length cc, cl)])) (eatD (tokR (k + 1) (ws.drop (j + 1)) (ls.drop (k + 1))) ⟨false, false, []⟩) = X) := by show _ = _; rw [← HX.out, fin_take (takeP_0 _), svS_snoc]
                  have k0 := PZ.out.bx.c0
                  have k1 := PZ.out.bx.c1
                  have hsw := PZ.out.bel.size
                  clear HX HLi HA hA
                  generalize hcn : cl.length = n at *
                  have HCN : Hid (cl.length = n) := hcn
                  clear hcn
                  go_wp2_with (at_builtin; refine wpList_append_apk rfl _ _ 42 rfl w.heap.size 41 il (.agg #[.bool false, .slice none 0 0]) 2 32 Tryd.underlying42 hil hzl0 hzl1 hzl2 rfl (by decide) _ L.length (svC L) rfl (World.ownsRow.alloc PZ.out.oz.row _) _ 1 1 [.bool d, .slice ca n cc] rfl rfl (cell_two_new9 _ _ _ _) (by simp [Value.oneCell']) (by unfold maxLen; omega) (by omega) (by simp; omega) ?_; intro v7 w7 own7 ap7; have A7 := PZ.out.fin own7 ap7; have m0 := A7.1.c0; have m1 := A7.1.c1; have n0 := A7.1.f0; have n1 := A7.1.f1; have F7 := A7.2; have F7 : Hid (Pz w E [(.slice (some ⟨g2, 0, none⟩) ws.length wc, ws), (.slice (some ⟨g, 0, none⟩) ls.length lc, ls)] ((w7.setCell ⟨E, 0, none⟩ (.bool false)).setCell ⟨E, 1, none⟩ (.slice none 0 0)) v7 (L ++ [(d, .slice ca n cc, cl)]) false (.slice none 0 0) []) := F7; clear A7 own7 ap7)
                  go_roundg (gk - 1)
                  case measure => have := HJ.out; omega
                  case rel => exact ⟨j + 1, L ++ [(d, Value.slice ca n cc, cl)], false, false, _, [], by have := HJ.out; omega, by go_num, rfl, by have := HW.out; simp; omega, HX2.out, F7.out⟩
                · rw [show (wd == [48]) = false from by simpa using h0] at hq0
                  cases hl : litQ wd
                  · have HT : Hid (takeW ⟨op, d, cl⟩ wd = none) := takeP_n HA.out h0 hl
                    have HX2 : Hid (X = (svS L, k + 1)) := by show _ = _; rw [← HX.out, fin_no HT.out]
                    rw [hl] at HLi
                    have HLi : Hid (∀ W : World, Calls Tryd.prog 56 #[.string y] W fun e w' => e = .returned (.bool false) ∧ Below W.heap.size W w') := HLi
                    clear HX HT hl h0 hA HA
                    go_wp2_with (go_at_call 56; refine (HLi.out _).mono ?_; rintro e w4 ⟨rfl, bel4⟩)
                    go_returns
                    rw [HX2.out]
                    have PZ4 := PZ.out.below bel4
                    exact ParP.mk (by simp) rfl PZ4.oz PZ4.bel
                  · obtain ⟨z, hz, hzk, hT⟩ := takeP_l (st := ⟨op, d, cl⟩) HA.out h0 hl
                    have HX2 : Hid (finP ls.length (svS L) (eatD (tokR (k + 1) (ws.drop (j + 1)) (ls.drop (k + 1))) ⟨true, d, cl ++ [z]⟩) = X) := by show _ = _; rw [← HX.out, fin_take hT, List.append_nil]
                    rw [hl] at HLi
                    have HLi : Hid (∀ W : World, Calls Tryd.prog 56 #[.string y] W fun e w' => e = .returned (.bool true) ∧ Below W.heap.size W w') := HLi
                    have HV : Hid (∀ W : World, Calls Tryd.prog 29 #[.string y] W fun e w' => e = .returned (.int .i64 z) ∧ Below W.heap.size W w') := fun W => (rValue_any y z W (by rw [HB.out]; exact hz) hys).mono fun e w' ⟨n, e1, _, e2, e3⟩ => ⟨by rw [e1, e2 hzk], e3⟩
                    clear HX hl h0 hA HA hz hzk hT HB
                    go_upto_region 25 with (go_at_call 56; refine (HLi.out _).mono ?_; rintro e w4 ⟨rfl, bel4⟩)
                    have PZ4 : Hid (Pz w E [(.slice (some ⟨g2, 0, none⟩) ws.length wc, ws), (.slice (some ⟨g, 0, none⟩) ls.length lc, ls)] w4 _ L d (.slice ca cl.length cc) cl) := PZ.out.below bel4
                    clear PZ bel4 hc3 HLi
                    have k1 := PZ4.out.bx.c1
                    have hsw := PZ4.out.bel.size
                    go_region_law (first
                      | (go_simp; go_at_call 29; refine (HV.out _).mono ?_; intro e w9 hh; obtain ⟨he, hb9⟩ := hh; rw [he]; clear he; have P9 := PZ4.out.below (Below.step (Below.refl _ _).drew hb9); have q1 := P9.bx.c1; have q2 := (P9.bx.below (below_box w9 (.cells #[.int .i64 z] 3))).c1; have hs9 := P9.bel.size; have P9 : Hid (Pz w E [(.slice (some ⟨g2, 0, none⟩) ws.length wc, ws), (.slice (some ⟨g, 0, none⟩) ls.length lc, ls)] w9 _ L d (.slice ca cl.length cc) cl) := P9; clear hb9; dsimp only)
                      | (refine step_append_apk rfl (.tmp 82) (.tmp 85) 39 rfl w.heap.size 3 i0 (.int .i64 0) 1 8 Tryd.underlying39 hi hz0 hz1 hz2 rfl (by decide) (.slice ca cl.length cc) cl.length (cl.map (Value.int .i64)) (by simp [Act.eval, Act.put]) (World.ownsRow.alloc P9.out.own _) ⟨w9.heap.size, 0, none⟩ 1 1 [.int .i64 z] (by simp [Act.eval, Act.put]) rfl (cell_one_new _ _ _) (by simp [Value.oneCell']) (by unfold maxLen; omega) (by omega) (by simp; omega) ?_; intro v7 w7 own7 ap7; obtain ⟨a7, c7, hv7⟩ := own_form9p own7; subst hv7; have A7 := P9.out.lit own7 ap7; have r1 := A7.1.c1; have s1 := A7.1.f1; have F7 := A7.2; have F7 : Hid (Pz w E [(.slice (some ⟨g2, 0, none⟩) ws.length wc, ws), (.slice (some ⟨g, 0, none⟩) ls.length lc, ls)] (w7.setCell ⟨E, 1, none⟩ (.slice a7 (cl.length + 1) c7)) _ L d (.slice a7 (cl.length + 1) c7) (cl ++ [z])) := F7; clear A7 own7 ap7))
                    all_goals
                      go_wp2
                      go_roundg (gk - 1)
                      case measure => have := HJ.out; omega
                      case rel => exact ⟨j + 1, L, true, d, _, cl ++ [z], by have := HJ.out; omega, by go_num, rfl, by have := HW.out; simp; omega, HX2.out, F7.out⟩
            · obtain rfl : j = ws.length := by omega
              have HX2 : Hid (finP ls.length (svS L) (eatD (toks (k + 1 + 1) (ls.drop (k + 1))) ⟨op, d, cl⟩) = X) := by have := HX.out; rw [List.drop_length] at this; show _ = _; rw [← this, fin_next]
              have HW : Hid (L.length + cl.length + lenS (ls.drop (k + 1)) ≤ 1099511627776) := by show _ ≤ _; omega
              clear hj HX hw2
              go_wp2
              go_roundg (G - 1)
              case measure => have := HK.out; omega
              case rel => exact ⟨k + 1, L, op, d, cv, cl, by have := HK.out; omega, by go_num, rfl, HW.out, HX2.out, PZ.out.less⟩
    · obtain rfl : k = ls.length := by omega
      clear hk
      cases op
      · have HX2 : Hid (X = (svS L, 0)) := by show _ = _; rw [← HX.out, List.drop_length, fin_end]; rfl
        go_wp2
        go_returns
        rw [HX2.out]
        exact ParP.mk rfl rfl PZ.out.oz PZ.out.bel
      · have HX2 : Hid (X = (svS L, ls.length + 1)) := by show _ = _; rw [← HX.out, List.drop_length, fin_end]; rfl
        go_wp2
        go_returns
        rw [HX2.out]
        exact ParP.mk (by simp) rfl PZ.out.oz PZ.out.bel

end Go.Proofs.YtaipajalkendaaaDoor
