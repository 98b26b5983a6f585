/-
  TrimParts, walked.
  KEEP: len below nil form rd mono one more grown lt size cell some none of ofNat add out step row get at drop rdz own ap app
-/
import Derived.Test.YtldolhllacbhjaaTmX
import Derived.Test.YtldolhllacbhjaaOpenZ
import Derived.Test.YtldolhllacbhjaaTruth
import Derived.Test.YtldolhllacbhjaaConcat
set_option linter.unusedSimpArgs false
set_option linter.unusedVariables false
namespace Go.Proofs.Ytldolhllacbhjaa
theorem sub_yes {a b : List Stp} (h : a.Sublist b) : a.isSublist b = true := List.isSublist_iff_sublist.2 h
theorem sub_no {a b : List Stp} (h : b.length < a.length) : a.isSublist b = false := by
  cases e : a.isSublist b
  · rfl
  · have := (List.isSublist_iff_sublist.1 e).length_le
    omega
theorem OwnZ.rdz2 {B : Nat} {W w : World} {s v : Value} {L : List SV} {l : List Stp} (h : OwnZ B W s L) (hr : RdZ w v l) (hs : (svS L).Sublist l) : RdZ W s (svS L) := by
  have h1 := hr.len
  have h2 := hs.length_le
  rw [svS_len] at h2
  refine h.rdz (by omega) fun x hx => ?_
  exact rdz_each hr (x.1, x.2.2) (hs.subset (List.mem_map_of_mem (f := fun x : SV => (x.1, x.2.2)) hx))
theorem OwnZ.form2 {B : Nat} {W : World} {s : Value} {L : List SV} (h : OwnZ B W s L) : ∃ a c, s = .slice a L.length c := by
  rcases h.row.2 with ⟨e, hn⟩ | ⟨g, cap, cur, e, _⟩
  · exact ⟨none, 0, by rw [e, hn]⟩
  · exact ⟨_, cap, e⟩
namespace trimParts
open Go Go.RowKit

set_option maxHeartbeats 3200000 in
set_option maxRecDepth 100000 in
theorem walk (vl : Value) (l : List Stp) (vo : Value) (ms : List Bool) (d : Bool) (v1 : Value) (z1 : List Int) (w : World) (hl : RdZ w vl l) (ho : RdB w vo ms) (h1 : Rd w v1 z1) :
    Calls Try.prog 5 #[vl, vo, .agg #[.bool d, v1]] w fun e w' => e = .returned (.bool true) ∧ Below w.heap.size w w' := by
  have hlz : l.length * 32 ≤ 140737488351232 := hl.len
  have hb3 := h1.len
  have hb2 := ho.len
  have hbx := below_box w (.cells #[.bool d, v1] 38)
  have hX := Bx2.new w 38 (.bool d) v1
  have HX : Hid (Bx2 (w.alloc (.cells #[.bool d, v1] 38)) w.heap.size 38 (.bool d) v1 ∧ Below w.heap.size w (w.alloc (.cells #[.bool d, v1] 38))) := ⟨hX, hbx⟩
  have HL : Hid (RdZ w vl l) := hl
  have HR1 : Hid (Rd w v1 z1) := h1
  have HCp : Hid (∀ W, Below w.heap.size w W → Calls Try.prog 12 #[vl] W fun e w' => ∃ u L, e = .returned u ∧ OwnZ W.heap.size w' u L ∧ svS L = l ∧ RdZ w' u l ∧ Below W.heap.size W w') := fun W h => (copySteps_any vl l W (hl.below h)).mono fun e w' ⟨u, h1, ⟨L, h2, h2'⟩, h3⟩ => ⟨u, L, h1, h2, h2', (by have := h2.rdz2 hl (by rw [h2']; exact List.Sublist.refl _); rw [h2'] at this; exact this), h3⟩
  have HWi : Hid (∀ W u v a b, RdZx W u a → RdZx W v b → Calls Try.prog 11 #[u, v] W fun e w' => e = .returned (.bool (a.isSublist b)) ∧ Below W.heap.size W w') := fun W u v a b h g => within_x u v a b W h g
  obtain ⟨al, cl, rfl, hcl, hml, hcell⟩ := hl.form
  have HC : Hid (∀ k, k < l.length → ∃ b off u, al = some ⟨b, off, none⟩ ∧ b < w.heap.size ∧ w.cell? ⟨b, off + k * 2, none⟩ = some (.bool (l.getD k (false, [])).1) ∧ w.cell? ⟨b, off + k * 2 + 1, none⟩ = some u ∧ Rd w u (l.getD k (false, [])).2) := hcell
  obtain ⟨_, ao, co, rfl, hoc⟩ := ho
  have HO : Hid (∀ k, k < ms.length → ∃ b off, ao = some ⟨b, off, none⟩ ∧ b < w.heap.size ∧ w.cell? ⟨b, off + k, none⟩ = some (.bool (ms.getD k false))) := fun k hk => by
    obtain ⟨b, off, e, hb, h⟩ := hoc (by intro e; subst e; simp at hk)
    exact ⟨b, off, e, hb, h k hk⟩
  obtain ⟨_, a1, c1, rfl, _⟩ := h1
  obtain ⟨il, hil, hzl0, hzl1, hzl2⟩ := info_parts infoZ
  clear hl hcell hoc hbx hX
  go_enter Try.func5, Try.ntmps5
  go_upto_region 1 with fail
  generalize w.alloc (.cells #[.bool d, .slice a1 z1.length c1] 38) = W1 at *
  obtain ⟨X, hXe⟩ : ∃ X, w.heap.size = X := ⟨_, rfl⟩
  have HXe : Hid (w.heap.size = X) := hXe
  rw [hXe] at HX ⊢
  clear hXe
  go_wp2_with fail
  go_loopg [7, 8] l.length (fun g u i wr => ∃ (k : Nat) (L : List SV), k + g = l.length ∧ i = .int .i64 k ∧ L.length ≤ k ∧ Hid ((svS L).Sublist (l.take k)) ∧ Hid (OwnZ W1.heap.size wr u L) ∧ Hid (Below W1.heap.size W1 wr))
  case atStart => exact ⟨0, [], by omega, rfl, by simp, by show List.Sublist _ _; simp [svS], OwnZ.nil _ _, Below.refl _ _⟩
  case round =>
    obtain ⟨k, L, hk, rfl, hLk, HSb, HOz, HB⟩ := hrel
    have HK : Hid (k + gk = l.length) := hk
    have HBw : Hid (Below w.heap.size w wr) := by have := HX.out.2; rw [← HXe.out] at this; exact Below.step this HB.out
    obtain ⟨au, cu, rfl⟩ := HOz.out.form2
    by_cases hlt : k < l.length
    · have HTk : Hid (l.take (k + 1) = l.take k ++ [l.getD k (false, [])]) := take_succ_getD l (false, []) k hlt
      obtain ⟨bb, off, uu, rfl, hbb, hd, hu, hru⟩ := HC.out k hlt
      obtain ⟨ac, cc, rfl, _⟩ := hru.form
      have HCel : Hid (∀ W, Below wr.heap.size wr W → W.cell? ⟨bb, off + k * 2, none⟩ = some (.bool (l.getD k (false, [])).1) ∧ W.cell? ⟨bb, off + k * 2 + 1, none⟩ = some (.slice ac (l.getD k (false, [])).2.length cc)) := fun W h => by
        have h := Below.step HBw.out h
        exact ⟨(h.cell (p := ⟨bb, off + k * 2, none⟩) hbb).trans hd, (h.cell (p := ⟨bb, off + k * 2 + 1, none⟩) hbb).trans hu⟩
      have HRu : Hid (Rd wr (.slice ac (l.getD k (false, [])).2.length cc) (l.getD k (false, [])).2) := hru.below HBw.out
      clear hd hu hru
      generalize l.getD k (false, []) = xk at *
      obtain ⟨dd, z⟩ := xk
      dsimp only at *
      have HSk : Hid ((svS L).Sublist (l.take (k + 1))) := by show List.Sublist _ _; rw [HTk.out]; exact HSb.out.trans (List.sublist_append_left _ _)
      by_cases hgo : k < ms.length ∧ ms.getD k false = true
      · obtain ⟨b2, o2, rfl, hb2, hc2⟩ := HO.out k hgo.1
        have k2 := (HBw.out.cell (p := ⟨b2, o2 + k, none⟩) hb2).trans hc2
        rw [hgo.2] at k2
        have hkm := hgo.1
        clear hgo hc2 hk
        go_wp2_with fail
        go_roundg (gk - 1)
        case measure => have := HK.out; omega
        case rel => exact ⟨k + 1, L, by have := HK.out; omega, by go_num, by omega, HSk, HOz, HB⟩
      · have c0 := (HCel.out wr (Below.refl _ _)).1
        have c1' := (HCel.out wr (Below.refl _ _)).2
        have HCi : Hid (∀ W, Below wr.heap.size wr W → Calls Try.prog 8 #[.slice ac z.length cc] W fun e w' => ∃ u, e = .returned u ∧ Own wr.heap.size w' u z ∧ Below wr.heap.size wr w') := fun W h => (copyInts_any _ z W (HRu.out.below h)).mono fun e w' ⟨u, h1, h2, h3⟩ => ⟨u, h1, h2.mono h.size, Below.step h h3⟩
        have hLb : (L.length + 1) * 32 ≤ 140737488355328 := by omega
        have hsz := HB.out.size
        have HA : Hid (∀ w2 u w3 v3, Own wr.heap.size w2 u z → Below wr.heap.size wr w2 → w3.ownsRow W1.heap.size 38 2 v3 (L.length + 1) (svC L ++ [.bool dd, u]) → (w2.alloc (.cells #[.bool dd, u] 38)).grownBy w3 (Value.slice au L.length cu).ownBlock → OwnZ W1.heap.size w3 v3 (L ++ [(dd, u, z)]) ∧ Below W1.heap.size W1 w3) := fun w2 u w3 v3 o2 b2 own3 gr3 => by
          have h0 := HOz.out.below b2
          have hap : ApartC ((L ++ [(dd, u, z)]).map Prod.snd) := by
            rw [List.map_append]
            exact ApartC.snoc (W := wr) HOz.out.ap (fun x hx => by obtain ⟨y, hy, rfl⟩ := List.mem_map.1 hx; exact HOz.out.own y hy) o2 (Nat.le_refl _)
          refine ⟨h0.app (World.grownBy_alloc _ _ none) own3 gr3 (o2.mono hsz) hap, ?_⟩
          have hb0 := Below.step HB.out b2
          exact (hb0.alloc hb0.size _).grown gr3 (by have := hb0.size; simp; omega) (fun j hj => (World.ownsRow.lt h0.row j hj).1)
        have HSn : Hid (∀ u, (svS (L ++ [(dd, u, z)])).Sublist (l.take (k + 1))) := fun u => by rw [HTk.out, svS_snoc]; exact List.Sublist.append HSb.out (List.Sublist.refl _)
        by_cases hkm : k < ms.length
        · obtain ⟨b2, o2, rfl, hb2, hc2⟩ := HO.out k hkm
          have k2 := (HBw.out.cell (p := ⟨b2, o2 + k, none⟩) hb2).trans hc2
          have hf : ms.getD k false = false := by
            cases e : ms.getD k false
            · rfl
            · exact absurd ⟨hkm, e⟩ hgo
          rw [hf] at k2
          clear hgo hc2 hk hf
          go_upto_region 6 with fail
          go_region_law (first
            | (go_simp; go_at_call 8; refine (HCi.out _ (Below.refl _ _).drew).mono ?_; rintro e w2 ⟨u2, rfl, own2, bel2⟩; have d0 := (HCel.out w2 bel2).1; have d1 := (HCel.out w2 bel2).2; have hs2 := bel2.size; have H2 : Hid (Own wr.heap.size w2 u2 z ∧ Below wr.heap.size wr w2) := ⟨own2, bel2⟩; obtain ⟨a2, c2, hu2⟩ := own_form own2; subst hu2; clear own2 bel2; dsimp only)
            | (refine step_append_own rfl (.tmp 27) (.tmp 40) 33 rfl W1.heap.size 38 il (.agg #[.bool false, .slice none 0 0]) 2 32 Try.underlying33 hil hzl0 hzl1 hzl2 rfl (by decide) (.slice au L.length cu) L.length (svC L) (by simp [Act.eval, Act.put]) (World.ownsRow.alloc (HOz.out.below H2.out.2).row _) ⟨w2.heap.size, 0, none⟩ 1 1 [.bool dd, .slice a2 z.length c2] (by simp [Act.eval, Act.put]) rfl (cell_two_new9 _ _ _ _) (by simp [Value.oneCell']) (by unfold maxLen; omega) (by omega) (by simp; omega) ?_; intro v3 w3 own3 gr3; have H3 : Hid (OwnZ W1.heap.size w3 v3 (L ++ [(dd, .slice a2 z.length c2, z)]) ∧ Below W1.heap.size W1 w3) := HA.out _ _ _ _ H2.out.1 H2.out.2 own3 gr3; clear own3 gr3))
          all_goals
            go_wp2_with fail
            go_roundg (gk - 1)
            case measure => have := HK.out; omega
            case rel => exact ⟨k + 1, _, by have := HK.out; omega, by go_num, by simp; omega, HSn.out _, H3.out.1, H3.out.2⟩
        · have hkm2 : ¬ (k < ms.length) := hkm
          clear hgo hk
          go_upto_region 6 with fail
          go_region_law (first
            | (go_simp; go_at_call 8; refine (HCi.out _ (Below.refl _ _).drew).mono ?_; rintro e w2 ⟨u2, rfl, own2, bel2⟩; have d0 := (HCel.out w2 bel2).1; have d1 := (HCel.out w2 bel2).2; have hs2 := bel2.size; have H2 : Hid (Own wr.heap.size w2 u2 z ∧ Below wr.heap.size wr w2) := ⟨own2, bel2⟩; obtain ⟨a2, c2, hu2⟩ := own_form own2; subst hu2; clear own2 bel2; dsimp only)
            | (refine step_append_own rfl (.tmp 27) (.tmp 40) 33 rfl W1.heap.size 38 il (.agg #[.bool false, .slice none 0 0]) 2 32 Try.underlying33 hil hzl0 hzl1 hzl2 rfl (by decide) (.slice au L.length cu) L.length (svC L) (by simp [Act.eval, Act.put]) (World.ownsRow.alloc (HOz.out.below H2.out.2).row _) ⟨w2.heap.size, 0, none⟩ 1 1 [.bool dd, .slice a2 z.length c2] (by simp [Act.eval, Act.put]) rfl (cell_two_new9 _ _ _ _) (by simp [Value.oneCell']) (by unfold maxLen; omega) (by omega) (by simp; omega) ?_; intro v3 w3 own3 gr3; have H3 : Hid (OwnZ W1.heap.size w3 v3 (L ++ [(dd, .slice a2 z.length c2, z)]) ∧ Below W1.heap.size W1 w3) := HA.out _ _ _ _ H2.out.1 H2.out.2 own3 gr3; clear own3 gr3))
          all_goals
            go_wp2_with fail
            go_roundg (gk - 1)
            case measure => have := HK.out; omega
            case rel => exact ⟨k + 1, _, by have := HK.out; omega, by go_num, by simp; omega, HSn.out _, H3.out.1, H3.out.2⟩
    · obtain rfl : k = l.length := by omega
      have hS : (svS L).Sublist l := HSb.out.trans (List.take_sublist _ _)
      have HRp : Hid (∀ W, Below wr.heap.size wr W → RdZ W (.slice au L.length cu) (svS L)) := fun W h => (HOz.out.below h).rdz2 HL.out hS
      have HY : Hid ((svS L).isSublist l = true) := sub_yes hS
      have HY0 : Hid (([] : List Stp).isSublist l = true) := sub_nil
      clear hS hk HK hlt hLk
      go_wp2_with fail
      refine (HCp.out wr HBw.out).mono ?_
      rintro e w2 ⟨u2, L2, rfl, _, _, r2, b2⟩
      have H2 : Hid (RdZ w2 u2 l ∧ Below wr.heap.size wr w2) := ⟨r2, b2⟩
      clear r2 b2
      go_wp2_with fail
      refine (HWi.out w2 _ u2 _ l (HRp.out w2 H2.out.2).x H2.out.1.x).mono ?_
      rw [HY.out]
      rintro e w3 ⟨rfl, b3⟩
      have H3 : Hid (Below wr.heap.size wr w3 ∧ Below w.heap.size w w3) := ⟨Below.step H2.out.2 b3, Below.step HBw.out (Below.step H2.out.2 b3)⟩
      clear b3
      go_wp2_with fail
      refine (HCp.out w3 H3.out.2).mono ?_
      rintro e w4 ⟨u4, L4, rfl, _, _, r4, b4⟩
      have H4 : Hid (RdZ w4 u4 l ∧ Below wr.heap.size wr w4) := ⟨r4, Below.step H3.out.1 b4⟩
      clear r4 b4
      go_wp2_with fail
      refine (HWi.out w4 _ u4 [] l (RdZ.nil _).x H4.out.1.x).mono ?_
      rw [HY0.out]
      rintro e w5 ⟨rfl, b5⟩
      have H5 : Hid (Below wr.heap.size wr w5 ∧ Below w.heap.size w w5) := ⟨Below.step H4.out.2 b5, Below.step HBw.out (Below.step H4.out.2 b5)⟩
      clear b5
      go_wp2_with fail
      refine (HCp.out w5 H5.out.2).mono ?_
      rintro e w6 ⟨u6, L6, rfl, o6, e6, r6, b6⟩
      have hL6 : L6.length = l.length := by rw [← e6, svS_len]
      obtain ⟨a6, c6, rfl⟩ := o6.form2
      rw [hL6] at o6 r6 ⊢
      have H6 : Hid (OwnZ w5.heap.size w6 (.slice a6 l.length c6) L6 ∧ svS L6 = l ∧ Below w5.heap.size w5 w6 ∧ L6.length = l.length) := ⟨o6, e6, b6, hL6⟩
      have hx6 := (HX.out.1.below HB.out).below (Below.step H5.out.1 b6)
      have x0 := hx6.c0
      have x1 := hx6.c1
      have HX6 : Hid (Bx2 w6 X 38 (.bool d) (.slice a1 z1.length c1)) := hx6
      have hb06 : Below w.heap.size w w6 := Below.step H5.out.2 b6
      have HCi : Hid (∀ W, Below w6.heap.size w6 W → Calls Try.prog 8 #[.slice a1 z1.length c1] W fun e w' => ∃ u, e = .returned u ∧ Own w6.heap.size w' u z1 ∧ Below w6.heap.size w6 w') := fun W h => (copyInts_any _ z1 W (HR1.out.below (Below.step hb06 h))).mono fun e w' ⟨u, h1, h2, h3⟩ => ⟨u, h1, h2.mono h.size, Below.step h h3⟩
      have HB6 : Hid (Below w.heap.size w w6) := hb06
      have hs56 := b6.size
      clear o6 e6 r6 b6 hx6 hb06 hL6
      have HCel6 : Hid (∀ W, Below w6.heap.size w6 W → W.cell? ⟨X, 0, none⟩ = some (.bool d) ∧ W.cell? ⟨X, 1, none⟩ = some (.slice a1 z1.length c1)) := fun W h => ⟨(HX6.out.below h).c0, (HX6.out.below h).c1⟩
      go_upto_region 10 with fail
      go_region_law (first
        | (go_simp; go_at_call 8; refine (HCi.out _ (Below.refl _ _).drew).mono ?_; rintro e w7 ⟨u7, rfl, own7, bel7⟩; have d0 := (HCel6.out w7 bel7).1; have d1 := (HCel6.out w7 bel7).2; have hs7 := bel7.size; have H7 : Hid (Own w6.heap.size w7 u7 z1 ∧ Below w6.heap.size w6 w7) := ⟨own7, bel7⟩; obtain ⟨a7, c7, hu7⟩ := own_form own7; subst hu7; clear own7 bel7; dsimp only)
        | (refine step_append_own rfl (.tmp 55) (.tmp 62) 33 rfl w5.heap.size 38 il (.agg #[.bool false, .slice none 0 0]) 2 32 Try.underlying33 hil hzl0 hzl1 hzl2 rfl (by decide) (.slice a6 l.length c6) l.length (svC L6) (by simp [Act.eval, Act.put]) (by have := World.ownsRow.alloc (H6.out.1.below H7.out.2).row (.cells #[.bool d, .slice a7 z1.length c7] 38); rw [H6.out.2.2.2] at this; exact this) ⟨w7.heap.size, 0, none⟩ 1 1 [.bool d, .slice a7 z1.length c7] (by simp [Act.eval, Act.put]) rfl (cell_two_new9 _ _ _ _) (by simp [Value.oneCell']) (by unfold maxLen; omega) (by omega) (by simp; omega) ?_; intro v8 w8 own8 gr8))
      all_goals
        have o7 := H6.out.1.below H7.out.2
        have hap : ApartC ((L6 ++ [(d, Value.slice a7 z1.length c7, z1)]).map Prod.snd) := by
          rw [List.map_append]
          exact ApartC.snoc (W := w6) H6.out.1.ap (fun x hx => by obtain ⟨y, hy, rfl⟩ := List.mem_map.1 hx; exact H6.out.1.own y hy) H7.out.1 (Nat.le_refl _)
        have o8 : OwnZ w5.heap.size w8 v8 (L6 ++ [(d, Value.slice a7 z1.length c7, z1)]) := o7.app (World.grownBy_alloc _ _ none) (by rw [H6.out.2.2.2]; exact own8) gr8 (H7.out.1.mono hs56) hap
        have b57 := Below.step H6.out.2.2.1 H7.out.2
        have hb58 : Below w5.heap.size w5 w8 := (b57.alloc b57.size _).grown gr8 (by have := b57.size; simp; omega) (fun j hj => (World.ownsRow.lt o7.row j hj).1)
        have hb08 : Below w.heap.size w w8 := Below.step H5.out.2 hb58
        have e8 : svS (L6 ++ [(d, Value.slice a7 z1.length c7, z1)]) = l ++ [(d, z1)] := by rw [svS_snoc, H6.out.2.1]
        have r8 : RdZx w8 v8 (l ++ [(d, z1)]) := by
          rw [← e8]
          refine o8.rdzx (by rw [List.length_append, H6.out.2.2.2]; simp; omega) fun x hx => ?_
          rcases List.mem_append.1 hx with q | q
          · exact rdz_each HL.out (x.1, x.2.2) (by rw [← H6.out.2.1]; exact List.mem_map_of_mem (f := fun x : SV => (x.1, x.2.2)) q)
          · obtain rfl : x = (d, Value.slice a7 z1.length c7, z1) := by simpa using q
            exact HR1.out.len
        have H8 : Hid (RdZx w8 v8 (l ++ [(d, z1)]) ∧ Below w.heap.size w w8) := ⟨r8, hb08⟩
        have HN1 : Hid ((l ++ [(d, z1)]).isSublist l = false) := sub_no (by simp)
        have HN2 : Hid (l.isSublist (l ++ [(d, z1)]) = true) := sub_yes (List.sublist_append_left _ _)
        clear o7 hap o8 b57 hb58 hb08 e8 r8 own8 gr8 d0 d1 x0 x1
        go_wp2_with fail
        refine (HCp.out w8 H8.out.2).mono ?_
        rintro e w9 ⟨u9, L9, rfl, _, _, r9, b9⟩
        have H9 : Hid (RdZ w9 u9 l ∧ RdZx w9 v8 (l ++ [(d, z1)]) ∧ Below w8.heap.size w8 w9) := ⟨r9, H8.out.1.below b9, b9⟩
        clear r9 b9
        go_wp2_with fail
        refine (HWi.out w9 _ u9 _ l H9.out.2.1 H9.out.1.x).mono ?_
        rw [HN1.out]
        rintro e w10 ⟨rfl, b10⟩
        have H10 : Hid (RdZx w10 v8 (l ++ [(d, z1)]) ∧ Below w.heap.size w w10) := ⟨H9.out.2.1.below b10, Below.step (Below.step H8.out.2 H9.out.2.2) b10⟩
        clear b10
        go_wp2_with fail
        refine (HCp.out w10 H10.out.2).mono ?_
        rintro e w11 ⟨u11, L11, rfl, _, _, r11, b11⟩
        have H11 : Hid (RdZ w11 u11 l ∧ RdZx w11 v8 (l ++ [(d, z1)]) ∧ Below w.heap.size w w11) := ⟨r11, H10.out.1.below b11, Below.step H10.out.2 b11⟩
        clear r11 b11
        go_wp2_with fail
        refine (HWi.out w11 _ v8 l _ H11.out.1.x H11.out.2.1).mono ?_
        rw [HN2.out]
        rintro e w12 ⟨rfl, b12⟩
        have H12 : Hid (Below w.heap.size w w12) := Below.step H11.out.2.2 b12
        clear b12
        go_wp2_with fail
        go_ret
        exact ⟨rfl, H12.out⟩
end trimParts
end Go.Proofs.Ytldolhllacbhjaa
