/-
  watch, at one small formula: look.
  KEEP: set on app at below new trans refl start ap kept rd rds mono lt add none own nil put len pos setF setV putL putR other neV same_any
-/
import Derived.Test.YtljcdlpjnpcdmaaWp
set_option linter.unusedSimpArgs false
set_option linter.unusedVariables false
namespace Go.Proofs.Ytljcdlpjnpcdmaa
open Go Go.RowKit

set_option maxRecDepth 100000 in
set_option maxHeartbeats 3200000 in
theorem wLook_any (B b g c gC cC gL cL gD cD : Nat) (Wt : Value) (gone st : Int) (cl : Bool) (wl : List Int) (w : World) (hb : B ≤ b) (hB : B ≤ w.heap.size)
    (hx : BxW w b (.slice (some ⟨gC, 0, none⟩) 1 cC) Wt (.slice (some ⟨g, 0, none⟩) 4 c) (.slice none 0 0) gone (.slice (some ⟨gD, 0, none⟩) 1 cD) st cl) (hn : Nr B w (.slice (some ⟨gC, 0, none⟩) 1 cC) Wt (.slice (some ⟨g, 0, none⟩) 4 c) (.slice none 0 0) (.slice (some ⟨gD, 0, none⟩) 1 cD) (.slice (some ⟨gL, 0, none⟩) 1 cL) (.slice none 0 0) 0 0 0 wl [] []) :
    Calls Try.prog 40 #[.pointer (some ⟨b, 0, none⟩), .int .i32 0] w fun e w' => e = .returned (.bool true) ∧ ∃ R T, BxW w' b (.slice (some ⟨gC, 0, none⟩) 1 cC) Wt (.slice (some ⟨g, 0, none⟩) 4 c) R gone (.slice (some ⟨gD, 0, none⟩) 1 cD) st cl ∧ Nr B w' (.slice (some ⟨gC, 0, none⟩) 1 cC) Wt (.slice (some ⟨g, 0, none⟩) 4 c) R (.slice (some ⟨gD, 0, none⟩) 1 cD) (.slice (some ⟨gL, 0, none⟩) 1 cL) T 0 (-1) 1 wl [0] [0] ∧ Below B w w' := by
  have HX : Hid (BxW w b (.slice (some ⟨gC, 0, none⟩) 1 cC) Wt (.slice (some ⟨g, 0, none⟩) 4 c) (.slice none 0 0) gone (.slice (some ⟨gD, 0, none⟩) 1 cD) st cl ∧ Nr B w (.slice (some ⟨gC, 0, none⟩) 1 cC) Wt (.slice (some ⟨g, 0, none⟩) 4 c) (.slice none 0 0) (.slice (some ⟨gD, 0, none⟩) 1 cD) (.slice (some ⟨gL, 0, none⟩) 1 cL) (.slice none 0 0) 0 0 0 wl [] []) := ⟨hx, hn⟩
  have k1 : w.cell? ⟨b, 1, none⟩ = some (.slice (some ⟨gC, 0, none⟩) 1 cC) := hx.cell 1 _ rfl
  have h4 : w.cell? ⟨b, 4, none⟩ = some (.slice (some ⟨g, 0, none⟩) 4 c) := hx.cell 4 _ rfl
  have hz : w.cell? ⟨g, 1, none⟩ = some (.int .i32 0) := row_cell hn.b (j := 1) rfl
  have hC : w.cell? ⟨gC, 0, none⟩ = some (.slice (some ⟨gL, 0, none⟩) 1 cL) := row_cell hn.c (j := 0) rfl
  have hL : w.cell? ⟨gL, 0, none⟩ = some (.int .i32 0) := row_cell hn.l (j := 0) rfl
  have HHi : Hid (Calls Try.prog 47 #[.pointer (some ⟨b, 0, none⟩), .pointer (some ⟨gC, 0, none⟩)] w fun e w' => e = .returned (.agg #[.int .i64 0, .int .i64 (-1)]) ∧ Below w.heap.size w w') := wHighest_any b gC gL cL g c w h4 hz hC hL
  clear hx hn h4 hz hC hL
  go_enter Try.func40, Try.ntmps40
  go_wp2_with fail
  refine Calls.mono HHi.out ?_
  rintro e w1 ⟨rfl, bel1⟩
  have hn1 := HX.out.2.below bel1
  have hx1 := HX.out.1.below bel1
  have e1 : w1.cell? ⟨gC, 1, none⟩ = some (.int .i64 0) := row_cell hn1.c (j := 1) rfl
  have e2 : w1.frozen? ⟨gC, 1, none⟩ = false := row_fz hn1.c 1
  have hgC : B ≤ gC := (hn1.c.lt gC rfl).1
  have hc2 := own_cell hn1.c (k := 1) (by omega) (.int .i64 0)
  have e3 : (w1.setCell ⟨gC, 1, none⟩ (.int .i64 0)).cell? ⟨gC, 2, none⟩ = some (.int .i64 0) := row_cell hc2 (j := 2) rfl
  have e4 : (w1.setCell ⟨gC, 1, none⟩ (.int .i64 0)).frozen? ⟨gC, 2, none⟩ = false := row_fz hc2 2
  have H2 : Hid (BxW ((w1.setCell ⟨gC, 1, none⟩ (.int .i64 0)).setCell ⟨gC, 2, none⟩ (.int .i64 (-1))) b (.slice (some ⟨gC, 0, none⟩) 1 cC) Wt (.slice (some ⟨g, 0, none⟩) 4 c) (.slice none 0 0) gone (.slice (some ⟨gD, 0, none⟩) 1 cD) st cl ∧ Nr B ((w1.setCell ⟨gC, 1, none⟩ (.int .i64 0)).setCell ⟨gC, 2, none⟩ (.int .i64 (-1))) (.slice (some ⟨gC, 0, none⟩) 1 cC) Wt (.slice (some ⟨g, 0, none⟩) 4 c) (.slice none 0 0) (.slice (some ⟨gD, 0, none⟩) 1 cD) (.slice (some ⟨gL, 0, none⟩) 1 cL) (.slice none 0 0) 0 (-1) 0 wl [] [] ∧ Below B w ((w1.setCell ⟨gC, 1, none⟩ (.int .i64 0)).setCell ⟨gC, 2, none⟩ (.int .i64 (-1)))) := ⟨(hx1.other (row_tyW hn1.c rfl) (by decide) _).other (row_tyW hc2 rfl) (by decide) _, hn1.setP 0 (-1), below_setW (below_setW (bel1.mono hB) hgC _) hgC _⟩
  clear hn1 hx1 bel1 hc2 k1
  have d1 := row_cell H2.out.2.1.c (j := 1) (x := .int .i64 0) rfl
  have d2 := row_cell H2.out.2.1.c (j := 2) (x := .int .i64 (-1)) rfl
  have d0 := row_cell H2.out.2.1.c (j := 0) (x := .slice (some ⟨gL, 0, none⟩) 1 cL) rfl
  have dL := row_cell H2.out.2.1.l (j := 0) (x := .int .i32 0) rfl
  have HH0 : Hid (Calls Try.prog 48 #[.pointer (some ⟨b, 0, none⟩), .pointer (some ⟨gC, 0, none⟩), .int .i64 0] ((w1.setCell ⟨gC, 1, none⟩ (.int .i64 0)).setCell ⟨gC, 2, none⟩ (.int .i64 (-1))) fun e w' => e = .returned (.int .i64 9223372036854775807) ∧ w' = ((w1.setCell ⟨gC, 1, none⟩ (.int .i64 0)).setCell ⟨gC, 2, none⟩ (.int .i64 (-1)))) := wHeight0_any b gC gL cL g c _ (H2.out.1.cell 4 _ rfl) (row_cell H2.out.2.1.b (j := 1) rfl) d0 dL
  have HHn : Hid (Calls Try.prog 48 #[.pointer (some ⟨b, 0, none⟩), .pointer (some ⟨gC, 0, none⟩), .int .i64 (-1)] ((w1.setCell ⟨gC, 1, none⟩ (.int .i64 0)).setCell ⟨gC, 2, none⟩ (.int .i64 (-1))) fun e w' => e = .returned (.int .i64 (-1)) ∧ w' = ((w1.setCell ⟨gC, 1, none⟩ (.int .i64 0)).setCell ⟨gC, 2, none⟩ (.int .i64 (-1)))) := wHeightN_any b gC _
  have HEq : Hid (∃ w2, w2 = (w1.setCell ⟨gC, 1, none⟩ (.int .i64 0)).setCell ⟨gC, 2, none⟩ (.int .i64 (-1))) := ⟨_, rfl⟩
  go_wp2_with fail
  refine Calls.mono HH0.out ?_
  rintro e w2 ⟨rfl, hw2⟩
  rw [← hw2] at H2 d0 d1 d2 dL HHn
  clear hw2 HH0 HEq e1 e2 e3 e4
  go_wp2_with fail
  refine Calls.mono HHn.out ?_
  rintro e w3 ⟨rfl, hw3⟩
  obtain rfl : w2 = w3 := hw3.symm
  clear hw3 HHn
  go_upto_region 7 with fail
  go_cut [7] from 42 to 52 (fun o wx => o = .int .i32 0 ∧ BxW wx b (.slice (some ⟨gC, 0, none⟩) 1 cC) Wt (.slice (some ⟨g, 0, none⟩) 4 c) (.slice none 0 0) gone (.slice (some ⟨gD, 0, none⟩) 1 cD) st cl ∧ Nr B wx (.slice (some ⟨gC, 0, none⟩) 1 cC) Wt (.slice (some ⟨g, 0, none⟩) 4 c) (.slice none 0 0) (.slice (some ⟨gD, 0, none⟩) 1 cD) (.slice (some ⟨gL, 0, none⟩) 1 cL) (.slice none 0 0) 0 (-1) 0 wl [] [] ∧ Below B w wx)
  case first =>
    go_region_law fail
    all_goals
      have H2d : Hid (BxW w2.drew b (.slice (some ⟨gC, 0, none⟩) 1 cC) Wt (.slice (some ⟨g, 0, none⟩) 4 c) (.slice none 0 0) gone (.slice (some ⟨gD, 0, none⟩) 1 cD) st cl ∧ Nr B w2.drew (.slice (some ⟨gC, 0, none⟩) 1 cC) Wt (.slice (some ⟨g, 0, none⟩) 4 c) (.slice none 0 0) (.slice (some ⟨gD, 0, none⟩) 1 cD) (.slice (some ⟨gL, 0, none⟩) 1 cL) (.slice none 0 0) 0 (-1) 0 wl [] [] ∧ Below B w w2.drew) := ⟨H2.out.1.below (Below.refl _ _).drew, H2.out.2.1.below (Below.refl _ _).drew, H2.out.2.2.drew⟩
      go_wp2_with fail
      go_meet
      exact ⟨rfl, H2d.out⟩
  case rest =>
  obtain ⟨rfl, hx3, hn3, hb3⟩ := hcut
  have H3 : Hid (Below B w wc ∧ Calls Try.prog 26 #[.pointer (some ⟨b, 0, none⟩), .int .i32 0] wc fun e w' => e = .returned (.tuple #[]) ∧ ∃ R, BxW w' b (.slice (some ⟨gC, 0, none⟩) 1 cC) Wt (.slice (some ⟨g, 0, none⟩) 4 c) R gone (.slice (some ⟨gD, 0, none⟩) 1 cD) st cl ∧ Nr B w' (.slice (some ⟨gC, 0, none⟩) 1 cC) Wt (.slice (some ⟨g, 0, none⟩) 4 c) R (.slice (some ⟨gD, 0, none⟩) 1 cD) (.slice (some ⟨gL, 0, none⟩) 1 cL) (.slice none 0 0) 0 (-1) 1 wl [0] [] ∧ Below B wc w') := ⟨hb3, wKnow_any B b g c _ cD _ Wt _ gone st cl 0 (-1) wl wc hb (Nat.le_trans hB hb3.size) hx3 hn3⟩
  clear hx3 hn3 hb3 H2 d0 d1 d2 dL
  go_wp2_with fail
  refine Calls.mono H3.out.2 ?_
  rintro e w4 ⟨rfl, R, hx4, hn4, hb4⟩
  have H4 : Hid (BxW w4 b (.slice (some ⟨gC, 0, none⟩) 1 cC) Wt (.slice (some ⟨g, 0, none⟩) 4 c) R gone (.slice (some ⟨gD, 0, none⟩) 1 cD) st cl ∧ Nr B w4 (.slice (some ⟨gC, 0, none⟩) 1 cC) Wt (.slice (some ⟨g, 0, none⟩) 4 c) R (.slice (some ⟨gD, 0, none⟩) 1 cD) (.slice (some ⟨gL, 0, none⟩) 1 cL) (.slice none 0 0) 0 (-1) 1 wl [0] [] ∧ Below B w w4) := ⟨hx4, hn4, H3.out.1.trans hb4⟩
  have k4 : w4.cell? ⟨b, 4, none⟩ = some (.slice (some ⟨g, 0, none⟩) 4 c) := hx4.cell 4 _ rfl
  have k7 : w4.cell? ⟨b, 7, none⟩ = some (.slice (some ⟨gD, 0, none⟩) 1 cD) := hx4.cell 7 _ rfl
  have kz : w4.cell? ⟨g, 0, none⟩ = some (.int .i32 1) := row_cell hn4.b (j := 0) rfl
  have kd : w4.cell? ⟨gD, 1, none⟩ = some (.slice none 0 0) := row_cell hn4.d (j := 1) rfl
  have kf : w4.frozen? ⟨gD, 1, none⟩ = false := row_fz hn4.d 1
  have hgD : B ≤ gD := (hn4.d.lt gD rfl).1
  clear hx4 hn4 hb4 H3
  obtain ⟨i3, hi3, hz3, hs3, hy3⟩ := info_parts infoI32w
  have HI3 : Hid (Try.prog.info? 21 = some i3 ∧ i3.zero = some (.int .i32 0) ∧ i3.size = 1 ∧ i3.bytes = 4) := ⟨hi3, hz3, hs3, hy3⟩
  have HNew : Hid (∀ j y, [Value.int .i32 0][j]? = some y → (w4.drew.alloc (.cells #[.int .i32 0] 21)).cell? ((⟨w4.drew.heap.size, 0, none⟩ : Addr).add j) = some y) := one_newW w4.drew (.int .i32 0) 21
  have HBs : Hid (B ≤ (w4.drew.alloc (.cells #[.int .i32 0] 21)).heap.size) := Nat.le_trans hB (Nat.le_trans H4.out.2.2.size (below_box w4.drew _).size)
  have HAp : Hid (∀ v5 w5, w5.ownsRow B 21 1 v5 1 [Value.int .i32 0] → Ap (w4.drew.alloc (.cells #[.int .i32 0] 21)) (.slice none 0 0) w5 v5 → w5.cell? ⟨gD, 1, none⟩ = some (.slice none 0 0) ∧ w5.frozen? ⟨gD, 1, none⟩ = false ∧ w5.cell? ⟨b, 7, none⟩ = some (.slice (some ⟨gD, 0, none⟩) 1 cD) ∧ BxW (w5.setCell ⟨gD, 1, none⟩ v5) b (.slice (some ⟨gC, 0, none⟩) 1 cC) Wt (.slice (some ⟨g, 0, none⟩) 4 c) R gone (.slice (some ⟨gD, 0, none⟩) 1 cD) st cl ∧ Nr B (w5.setCell ⟨gD, 1, none⟩ v5) (.slice (some ⟨gC, 0, none⟩) 1 cC) Wt (.slice (some ⟨g, 0, none⟩) 4 c) R (.slice (some ⟨gD, 0, none⟩) 1 cD) (.slice (some ⟨gL, 0, none⟩) 1 cL) v5 0 (-1) 1 wl [0] [0] ∧ Below B w (w5.setCell ⟨gD, 1, none⟩ v5)) := fun v5 w5 ho ha => by
    have hbl : Below w4.heap.size w4 w5 := ⟨ha.grown.os, ha.grown.tape, ha.grown.output, Nat.le_trans (below_box w4.drew _).size ha.grown.size, fun k hk => (ha.grown.block k (Nat.lt_of_lt_of_le hk (below_box w4.drew _).size) (by simp [Value.ownBlock])).trans ((below_box w4.drew _).block k hk)⟩
    have hx5 := H4.out.1.below hbl
    have hn5 := H4.out.2.1.below hbl
    refine ⟨row_cell hn5.d (j := 1) rfl, row_fz hn5.d 1, hx5.cell 7 _ rfl, hx5.other (row_tyW hn5.d rfl) (by decide) _, hn5.newT (T' := v5) (tl' := [0]) ho, ?_⟩
    exact below_setW (H4.out.2.2.trans (hbl.mono (Nat.le_trans hB H4.out.2.2.size))) hgD _
  have ab : Below w4.heap.size w4 (w4.alloc (.cells #[.int .i32 0] 21)).drew := (below_box w4 _).drew
  have ab1 : (w4.alloc (.cells #[.int .i32 0] 21)).drew.cell? ⟨gD, 1, none⟩ = some (.slice none 0 0) := row_cell (H4.out.2.1.below ab).d (j := 1) rfl
  have ab2 : (w4.alloc (.cells #[.int .i32 0] 21)).drew.frozen? ⟨gD, 1, none⟩ = false := row_fz (H4.out.2.1.below ab).d 1
  have ab3 : (w4.alloc (.cells #[.int .i32 0] 21)).drew.cell? ⟨b, 7, none⟩ = some (.slice (some ⟨gD, 0, none⟩) 1 cD) := (H4.out.1.below ab).cell 7 _ rfl
  clear ab
  go_upto_region 11 with fail
  go_cut [] from 68 to 85 (fun wx => ∃ T, BxW wx b (.slice (some ⟨gC, 0, none⟩) 1 cC) Wt (.slice (some ⟨g, 0, none⟩) 4 c) R gone (.slice (some ⟨gD, 0, none⟩) 1 cD) st cl ∧ Nr B wx (.slice (some ⟨gC, 0, none⟩) 1 cC) Wt (.slice (some ⟨g, 0, none⟩) 4 c) R (.slice (some ⟨gD, 0, none⟩) 1 cD) (.slice (some ⟨gL, 0, none⟩) 1 cL) T 0 (-1) 1 wl [0] [0] ∧ Below B w wx)
  case first =>
    go_region_law (refine step_append_apk rfl (.tmp 80) (.tmp 82) 50 rfl B 21 i3 (.int .i32 0) 1 4 Try.underlying50 HI3.out.1 HI3.out.2.1 HI3.out.2.2.1 HI3.out.2.2.2 rfl (by decide) (.slice none 0 0) 0 [] (by simp [Act.eval, Act.put]) (World.ownsRow_nil _ _ _ _) ⟨w4.drew.heap.size, 0, none⟩ 1 1 [.int .i32 0] (by simp [Act.eval, Act.put]) rfl HNew.out (by simp [Value.oneCell']) (by unfold maxLen; decide) (by decide) HBs.out ?_; intro v5 w5 own5 ap5; obtain ⟨a5, c5, hv5⟩ := row_form' own5; subst hv5; have K5 := HAp.out _ w5 own5 ap5; have q1 := K5.1; have q2 := K5.2.1; have q3 := K5.2.2.1; have F5 : Hid (_ ∧ _ ∧ _) := K5.2.2.2; clear K5 own5 ap5)
    all_goals
      go_wp2_with fail
      go_meet
      exact ⟨_, F5.out⟩
  case rest =>
  obtain ⟨T, hx5, hn5, hb5⟩ := hcut
  have HF : Hid (BxW wc b (.slice (some ⟨gC, 0, none⟩) 1 cC) Wt (.slice (some ⟨g, 0, none⟩) 4 c) R gone (.slice (some ⟨gD, 0, none⟩) 1 cD) st cl ∧ Nr B wc (.slice (some ⟨gC, 0, none⟩) 1 cC) Wt (.slice (some ⟨g, 0, none⟩) 4 c) R (.slice (some ⟨gD, 0, none⟩) 1 cD) (.slice (some ⟨gL, 0, none⟩) 1 cL) T 0 (-1) 1 wl [0] [0] ∧ Below B w wc) := ⟨hx5, hn5, hb5⟩
  clear hx5 hn5 hb5
  go_wp2
  go_ret
  exact ⟨rfl, R, T, HF.out⟩
end Go.Proofs.Ytljcdlpjnpcdmaa
