/-
  watch, at one small formula: lookAtWaiting, tell, Run.
  KEEP: set on app at below new trans refl start ap kept rd rds mono lt add none own nil put len pos setF setV putL putR other neV same_any
-/
import Derived.Test.YtljcdlpjnpcdmaaWl
set_option linter.unusedSimpArgs false
set_option linter.unusedVariables false
namespace Go.Proofs.Ytljcdlpjnpcdmaa
open Go Go.RowKit

theorem Nr.dropW {B : Nat} {W : World} {C Wt Bl R D lit late : Value} {p q z : Int} {wl rl tl : List Int} (h : Nr B W C Wt Bl R D lit late p q z wl rl tl) : Nr B W C (.slice none 0 0) Bl R D lit late p q z [] rl tl :=
  ⟨h.c, h.l, World.ownsRow_nil _ _ _ _, h.b, h.r, h.d, h.t, h.ap.1, fun g e => by simp [Value.ownBlock] at e⟩
/-- the Watch behind look -/
def Af (B : Nat) (w W : World) (b g c gC cC gL cL gD cD : Nat) (Wt : Value) (wl : List Int) (gone st : Int) (cl : Bool) : Prop :=
  ∃ R T, BxW W b (.slice (some ⟨gC, 0, none⟩) 1 cC) Wt (.slice (some ⟨g, 0, none⟩) 4 c) R gone (.slice (some ⟨gD, 0, none⟩) 1 cD) st cl ∧ Nr B W (.slice (some ⟨gC, 0, none⟩) 1 cC) Wt (.slice (some ⟨g, 0, none⟩) 4 c) R (.slice (some ⟨gD, 0, none⟩) 1 cD) (.slice (some ⟨gL, 0, none⟩) 1 cL) T 0 (-1) 1 wl [0] [0] ∧ Below B w W
set_option maxRecDepth 100000 in
set_option maxHeartbeats 3200000 in
theorem wWaiting_any (B b g c gC cC gL cL gD cD gW cW : Nat) (gone st : Int) (cl : Bool) (w : World) (hb : B ≤ b) (hB : B ≤ w.heap.size)
    (hx : BxW w b (.slice (some ⟨gC, 0, none⟩) 1 cC) (.slice (some ⟨gW, 0, none⟩) 1 cW) (.slice (some ⟨g, 0, none⟩) 4 c) (.slice none 0 0) gone (.slice (some ⟨gD, 0, none⟩) 1 cD) st cl) (hn : Nr B w (.slice (some ⟨gC, 0, none⟩) 1 cC) (.slice (some ⟨gW, 0, none⟩) 1 cW) (.slice (some ⟨g, 0, none⟩) 4 c) (.slice none 0 0) (.slice (some ⟨gD, 0, none⟩) 1 cD) (.slice (some ⟨gL, 0, none⟩) 1 cL) (.slice none 0 0) 0 0 0 [0] [] []) :
    Calls Try.prog 28 #[.pointer (some ⟨b, 0, none⟩)] w fun e w' => e = .returned (.bool true) ∧ Af B w w' b g c gC cC gL cL gD cD (.slice none 0 0) [] gone st cl := by
  have HL : Hid (Calls Try.prog 40 #[.pointer (some ⟨b, 0, none⟩), .int .i32 0] w fun e w' => e = .returned (.bool true) ∧ Af B w w' b g c gC cC gL cL gD cD (.slice (some ⟨gW, 0, none⟩) 1 cW) [0] gone st cl) := wLook_any B b g c gC cC gL cL gD cD _ gone st cl [0] w hb hB hx hn
  have k2 : w.cell? ⟨b, 2, none⟩ = some (.slice (some ⟨gW, 0, none⟩) 1 cW) := hx.cell 2 _ rfl
  have kw : w.cell? ⟨gW, 0, none⟩ = some (.int .i32 0) := row_cell hn.w (j := 0) rfl
  clear hx hn
  go_enter Try.func28, Try.ntmps28
  go_wp2
  go_loopg [3, 4, 10] 1 (fun q x3 x4 k' wr => ∃ k : Nat, k + q = 1 ∧ k' = .int .i64 k ∧ (k = 0 ∧ wr = w ∨ k = 1 ∧ Af B w wr b g c gC cC gL cL gD cD (.slice (some ⟨gW, 0, none⟩) 1 cW) [0] gone st cl))
  case atStart => exact ⟨0, by omega, rfl, .inl ⟨rfl, rfl⟩⟩
  case round =>
    obtain ⟨k, hk, rfl, (⟨rfl, hwr⟩ | ⟨rfl, haf⟩)⟩ := hrel
    · obtain rfl : w = wr := hwr.symm
      go_wp2_with fail
      refine Calls.mono HL.out ?_
      rintro e w1 ⟨rfl, haf⟩
      have HA : Hid (Af B w w1 b g c gC cC gL cL gD cD (.slice (some ⟨gW, 0, none⟩) 1 cW) [0] gone st cl) := haf
      clear haf
      go_wp2
      go_roundg 0
      case measure => omega
      case rel => exact ⟨1, by omega, by go_num, .inr ⟨rfl, HA.out⟩⟩
    · obtain ⟨R, T, hx, hn, hbl⟩ := haf
      have q2 : wr.cell? ⟨b, 2, none⟩ = some (.slice (some ⟨gW, 0, none⟩) 1 cW) := hx.cell 2 _ rfl
      have q3 : wr.frozen? ⟨b, 2, none⟩ = false := hx.fz 2
      have HA : Hid (Af B w (wr.setCell ⟨b, 2, none⟩ (.slice none 0 0)) b g c gC cC gL cL gD cD (.slice none 0 0) [] gone st cl) := ⟨R, T, hx.set2 _, (hn.box hx.ty 2 _).dropW, below_setW hbl hb _⟩
      clear hx hn hbl
      go_wp2
      go_ret
      exact ⟨rfl, HA.out⟩
set_option maxRecDepth 100000 in
set_option maxHeartbeats 3200000 in
theorem wTell_any (B b g c gC cC gL cL gD cD : Nat) (st : Int) (cl : Bool) (w0 w : World) (hb : B ≤ b) (h : Af B w0 w b g c gC cC gL cL gD cD (.slice none 0 0) [] 0 st cl) :
    Calls Try.prog 29 #[.pointer (some ⟨b, 0, none⟩)] w fun e w' => e = .returned (.bool true) ∧ Af B w0 w' b g c gC cC gL cL gD cD (.slice none 0 0) [] 1 st cl := by
  obtain ⟨R, T, hx, hn, hbl⟩ := h
  obtain ⟨gR, cR, eR, r1, r2, r3⟩ := row_some hn.r (by decide)
  have eR' : R = .slice (some ⟨gR, 0, none⟩) 1 cR := eR
  subst eR'
  have hxr : bits BinOp.xor IntKind.i32 0 1 = 1 := by decide
  have H0 : Hid (BxW w b (.slice (some ⟨gC, 0, none⟩) 1 cC) (.slice none 0 0) (.slice (some ⟨g, 0, none⟩) 4 c) (.slice (some ⟨gR, 0, none⟩) 1 cR) 0 (.slice (some ⟨gD, 0, none⟩) 1 cD) st cl ∧ Nr B w (.slice (some ⟨gC, 0, none⟩) 1 cC) (.slice none 0 0) (.slice (some ⟨g, 0, none⟩) 4 c) (.slice (some ⟨gR, 0, none⟩) 1 cR) (.slice (some ⟨gD, 0, none⟩) 1 cD) (.slice (some ⟨gL, 0, none⟩) 1 cL) T 0 (-1) 1 [] [0] [0] ∧ Below B w0 w) := ⟨hx, hn, hbl⟩
  clear hx hn hbl eR r2 r3
  go_enter Try.func29, Try.ntmps29
  go_wp2
  go_loopg [3, 4, 5, 6] 1 (fun q x3 x4 x5 x6 wr => ∃ k : Nat, k + q = 1 ∧ BxW wr b (.slice (some ⟨gC, 0, none⟩) 1 cC) (.slice none 0 0) (.slice (some ⟨g, 0, none⟩) 4 c) (.slice (some ⟨gR, 0, none⟩) 1 cR) (k : Int) (.slice (some ⟨gD, 0, none⟩) 1 cD) st cl ∧ Nr B wr (.slice (some ⟨gC, 0, none⟩) 1 cC) (.slice none 0 0) (.slice (some ⟨g, 0, none⟩) 4 c) (.slice (some ⟨gR, 0, none⟩) 1 cR) (.slice (some ⟨gD, 0, none⟩) 1 cD) (.slice (some ⟨gL, 0, none⟩) 1 cL) T 0 (-1) 1 [] [0] [0] ∧ Below B w0 wr)
  case atStart => exact ⟨0, by omega, H0.out.1, H0.out.2.1, H0.out.2.2⟩
  case round =>
    obtain ⟨k, hk, hx, hn, hbl⟩ := hrel
    have k6 : wr.cell? ⟨b, 6, none⟩ = some (.int .i64 (k : Int)) := hx.cell 6 _ rfl
    have k5 : wr.cell? ⟨b, 5, none⟩ = some (.slice (some ⟨gR, 0, none⟩) 1 cR) := hx.cell 5 _ rfl
    have H1 : Hid (BxW wr.drew b (.slice (some ⟨gC, 0, none⟩) 1 cC) (.slice none 0 0) (.slice (some ⟨g, 0, none⟩) 4 c) (.slice (some ⟨gR, 0, none⟩) 1 cR) (k : Int) (.slice (some ⟨gD, 0, none⟩) 1 cD) st cl ∧ Nr B wr.drew (.slice (some ⟨gC, 0, none⟩) 1 cC) (.slice none 0 0) (.slice (some ⟨g, 0, none⟩) 4 c) (.slice (some ⟨gR, 0, none⟩) 1 cR) (.slice (some ⟨gD, 0, none⟩) 1 cD) (.slice (some ⟨gL, 0, none⟩) 1 cL) T 0 (-1) 1 [] [0] [0] ∧ Below B w0 wr.drew) := ⟨hx.below (Below.refl _ _).drew, hn.below (Below.refl _ _).drew, hbl.drew⟩
    clear hx hn hbl
    rcases (show k = 0 ∨ k = 1 by omega) with rfl | rfl
    · go_upto_region 2 with fail
      go_region_law fail
      all_goals
        clear k6 k5
        generalize wr.drew = w1 at *
        have k6 : w1.cell? ⟨b, 6, none⟩ = some (.int .i64 0) := H1.out.1.cell 6 _ rfl
        have k5 : w1.cell? ⟨b, 5, none⟩ = some (.slice (some ⟨gR, 0, none⟩) 1 cR) := H1.out.1.cell 5 _ rfl
        have kr : w1.cell? ⟨gR, 0, none⟩ = some (.int .i32 0) := row_cell H1.out.2.1.r (j := 0) rfl
        have H2 : Hid (BxW w1.drew b (.slice (some ⟨gC, 0, none⟩) 1 cC) (.slice none 0 0) (.slice (some ⟨g, 0, none⟩) 4 c) (.slice (some ⟨gR, 0, none⟩) 1 cR) 0 (.slice (some ⟨gD, 0, none⟩) 1 cD) st cl ∧ Nr B w1.drew (.slice (some ⟨gC, 0, none⟩) 1 cC) (.slice none 0 0) (.slice (some ⟨g, 0, none⟩) 4 c) (.slice (some ⟨gR, 0, none⟩) 1 cR) (.slice (some ⟨gD, 0, none⟩) 1 cD) (.slice (some ⟨gL, 0, none⟩) 1 cL) T 0 (-1) 1 [] [0] [0] ∧ Below B w0 w1.drew) := ⟨H1.out.1.below (Below.refl _ _).drew, H1.out.2.1.below (Below.refl _ _).drew, H1.out.2.2.drew⟩
        go_upto_region 3 with fail
        go_region_law fail
        all_goals
          obtain ⟨hx3, hn3, hb3⟩ := H2.out
          clear k6 k5 kr H1 H2
          generalize w1.drew = w3 at *
          have k6 : w3.cell? ⟨b, 6, none⟩ = some (.int .i64 0) := hx3.cell 6 _ rfl
          have f6 : w3.frozen? ⟨b, 6, none⟩ = false := hx3.fz 6
          have H4 : Hid (BxW (w3.setCell ⟨b, 6, none⟩ (.int .i64 1)) b (.slice (some ⟨gC, 0, none⟩) 1 cC) (.slice none 0 0) (.slice (some ⟨g, 0, none⟩) 4 c) (.slice (some ⟨gR, 0, none⟩) 1 cR) 1 (.slice (some ⟨gD, 0, none⟩) 1 cD) st cl ∧ Nr B (w3.setCell ⟨b, 6, none⟩ (.int .i64 1)) (.slice (some ⟨gC, 0, none⟩) 1 cC) (.slice none 0 0) (.slice (some ⟨g, 0, none⟩) 4 c) (.slice (some ⟨gR, 0, none⟩) 1 cR) (.slice (some ⟨gD, 0, none⟩) 1 cD) (.slice (some ⟨gL, 0, none⟩) 1 cL) T 0 (-1) 1 [] [0] [0] ∧ Below B w0 (w3.setCell ⟨b, 6, none⟩ (.int .i64 1))) := ⟨hx3.set6 1, hn3.box hx3.ty 6 _, below_setW hb3 hb _⟩
          have k3 : (w3.setCell ⟨b, 6, none⟩ (.int .i64 1)).cell? ⟨b, 3, none⟩ = some (.slice none 0 0) := H4.out.1.cell 3 _ rfl
          clear hx3 hn3 hb3
          go_wp2
          go_roundg 0
          case measure => omega
          case rel => exact ⟨1, by omega, H4.out.1, H4.out.2.1, H4.out.2.2⟩
    · have HF : Hid (Af B w0 wr.drew b g c gC cC gL cL gD cD (.slice none 0 0) [] 1 st cl) := ⟨_, T, H1.out.1, H1.out.2.1, H1.out.2.2⟩
      go_upto_region 2 with fail
      go_region_law fail
      all_goals
        go_wp2
        go_ret
        exact ⟨rfl, HF.out⟩
set_option maxRecDepth 100000 in
set_option maxHeartbeats 3200000 in
theorem wRun_any (B b g c gC cC gL cL gD cD gW cW : Nat) (cl : Bool) (w : World) (hb : B ≤ b) (hB : B ≤ w.heap.size)
    (hx : BxW w b (.slice (some ⟨gC, 0, none⟩) 1 cC) (.slice (some ⟨gW, 0, none⟩) 1 cW) (.slice (some ⟨g, 0, none⟩) 4 c) (.slice none 0 0) 0 (.slice (some ⟨gD, 0, none⟩) 1 cD) 0 cl) (hn : Nr B w (.slice (some ⟨gC, 0, none⟩) 1 cC) (.slice (some ⟨gW, 0, none⟩) 1 cW) (.slice (some ⟨g, 0, none⟩) 4 c) (.slice none 0 0) (.slice (some ⟨gD, 0, none⟩) 1 cD) (.slice (some ⟨gL, 0, none⟩) 1 cL) (.slice none 0 0) 0 0 0 [0] [] []) :
    Calls Try.prog 9 #[.pointer (some ⟨b, 0, none⟩)] w fun e w' => e = .returned (.bool true) ∧ Af B w w' b g c gC cC gL cL gD cD (.slice none 0 0) [] 1 1 false := by
  have HW : Hid (Calls Try.prog 28 #[.pointer (some ⟨b, 0, none⟩)] w fun e w' => e = .returned (.bool true) ∧ Af B w w' b g c gC cC gL cL gD cD (.slice none 0 0) [] 0 0 cl) := wWaiting_any B b g c gC cC gL cL gD cD gW cW 0 0 cl w hb hB hx hn
  have k8 : w.cell? ⟨b, 8, none⟩ = some (.int .i64 0) := hx.cell 8 _ rfl
  have k5 : w.cell? ⟨b, 5, none⟩ = some (.slice none 0 0) := hx.cell 5 _ rfl
  clear hx hn
  go_enter Try.func9, Try.ntmps9
  go_wp2_with fail
  refine Calls.mono HW.out ?_
  rintro e w1 ⟨rfl, haf⟩
  have HT : Hid (Calls Try.prog 29 #[.pointer (some ⟨b, 0, none⟩)] w1 fun e w' => e = .returned (.bool true) ∧ Af B w w' b g c gC cC gL cL gD cD (.slice none 0 0) [] 1 0 cl) := wTell_any B b g c gC cC gL cL gD cD 0 cl w w1 hb haf
  clear haf HW k8 k5
  go_wp2_with fail
  refine Calls.mono HT.out ?_
  rintro e w2 ⟨rfl, R, T, hx, hn, hbl⟩
  have k9 : w2.cell? ⟨b, 9, none⟩ = some (.bool cl) := hx.cell 9 _ rfl
  have f9 : w2.frozen? ⟨b, 9, none⟩ = false := hx.fz 9
  have hx3 := hx.set9 false
  have j8 : (w2.setCell ⟨b, 9, none⟩ (.bool false)).cell? ⟨b, 8, none⟩ = some (.int .i64 0) := hx3.cell 8 _ rfl
  have f8 : (w2.setCell ⟨b, 9, none⟩ (.bool false)).frozen? ⟨b, 8, none⟩ = false := hx3.fz 8
  have hx4 := hx3.set8 1
  have j9 : ((w2.setCell ⟨b, 9, none⟩ (.bool false)).setCell ⟨b, 8, none⟩ (.int .i64 1)).cell? ⟨b, 9, none⟩ = some (.bool false) := hx4.cell 9 _ rfl
  have HF : Hid (Af B w ((w2.setCell ⟨b, 9, none⟩ (.bool false)).setCell ⟨b, 8, none⟩ (.int .i64 1)) b g c gC cC gL cL gD cD (.slice none 0 0) [] 1 1 false) := ⟨R, T, hx4, (hn.box hx.ty 9 _).box hx3.ty 8 _, below_setW (below_setW hbl hb _) hb _⟩
  clear hx hn hbl hx3 hx4
  go_wp2
  go_ret
  exact ⟨rfl, HF.out⟩
end Go.Proofs.Ytljcdlpjnpcdmaa
