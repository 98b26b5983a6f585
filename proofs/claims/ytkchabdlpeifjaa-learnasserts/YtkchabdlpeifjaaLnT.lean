/-
  learn: top.
  KEEP: len below nil form rd mono one more grown lt size cell some none of ofNat add out step row get at mk new made look put del kept drew alloc has same other map rde take lit lev lstB pre ws cells bnd on start app set box bel rz tidy ms reason c f
-/
import Derived.Test.YtkchabdlpeifjaaLnK
set_option linter.unusedSimpArgs false
set_option linter.unusedVariables false
namespace Go.Proofs.Ytkchabdlpeifjaa
open Go Go.RowKit
set_option maxHeartbeats 3200000 in
theorem top_any (w : World) (a : Option Addr) (t : List Ent) (c g : Nat) (vc : Value) (zs : List Int) (h : Rz w a t c g t) (hz : Rd w vc zs) (hf : ∀ x ∈ zs, isF t x = true) :
    Calls Try.prog 31 #[rV a t.length c g, vc] w fun e w' => e = .returned (.int .i64 (topI t zs)) ∧ Below w.heap.size w w' := by
  have hl := hz.len
  obtain ⟨ua, uc, rfl, huc, hum, _⟩ := hz.form
  have hb1 := below_box w (.cells #[.slice a t.length c, .map (some g)] 45)
  obtain ⟨X, hX⟩ : ∃ X, w.heap.size = X := ⟨_, rfl⟩
  obtain ⟨w1, hw1⟩ : ∃ w1, w.alloc (.cells #[.slice a t.length c, .map (some g)] 45) = w1 := ⟨_, rfl⟩
  have HF : Hid (∀ W, Below w1.heap.size w1 W → Below X w W ∧ W.cell? ⟨X, 0, none⟩ = some (.slice a t.length c) ∧ W.cell? ⟨X, 1, none⟩ = some (.map (some g)) ∧ Rz W a t c g t ∧ Rd W (.slice ua zs.length uc) zs) := fun W hW => by
    rw [← hw1] at hW
    have hW0 : Below w.heap.size w W := Below.step hb1 hW
    exact ⟨by rw [← hX]; exact hW0, by rw [← hX]; exact box_at hW rfl, by rw [← hX]; exact box_at hW rfl, h.below hW0, hz.below hW0⟩
  have HFl : Hid (∀ x ∈ zs, isF t x = true) := hf
  have HWs : Hid (Ws t) := h.ws
  rw [hX]
  clear hb1 h hz hf
  go_enter Try.func31, Try.ntmps31
  go_wp2_with fail
  go_loopg [5, 10] zs.length (fun g' m j wr => ∃ k : Nat, k + g' = zs.length ∧ m = .int .i64 (topI t (zs.take k)) ∧ j = .int .i64 k ∧ Below w1.heap.size w1 wr)
  case atStart => exact ⟨0, by omega, rfl, rfl, Below.refl _ _⟩
  case round =>
    obtain ⟨k, hk, rfl, rfl, bel⟩ := hrel
    have HK : Hid (k + gk = zs.length) := hk
    have HB : Hid (Below w1.heap.size w1 wr) := bel
    obtain ⟨hX3, f0, f1, hrz, hrd⟩ := HF.out wr bel
    have HX3 : Hid (Below X w wr) := hX3
    by_cases hlt : k < zs.length
    · obtain ⟨ua', uc', e', _, _, hcell⟩ := hrd.form
      injection e' with q1 q2 q3
      subst q1 q3
      obtain ⟨b2, off2, rfl, hck⟩ := hcell k hlt
      have HT : Hid (topI t (zs.take (k + 1)) = max (topI t (zs.take k)) (lvl t (zs.getD k 0))) := by show _ = _; rw [take_succ_getD zs 0 k hlt, topI_snoc]
      have hv : (vpl t (varOf (zs.getD k 0))).isSome = true := by
        have h1 := HWs.out.isF_at (HFl.out _ (getD_mem' (l := zs) (k := k) (d := 0) hlt))
        rw [HWs.out.plc_vpl h1.1 h1.2.2.2.2]; rfl
      have HLv : Hid (Calls Try.prog 50 #[rV a t.length c g, .int .i64 (zs.getD k 0)] wr fun e w' => e = .returned (.int .i64 (lvl t (zs.getD k 0))) ∧ Below wr.heap.size wr w') := level_any a t t c g _ wr hrz hv
      have hmax : ∀ (x y : Int) (W : World), (Builtin.max_ #[3, 3] 3 #[.int .i64 x, .int .i64 y]).run Try.prog W = .ok (.int .i64 (max x y)) W := fun x y W => by
        have e : (if x < y then y else x) = max x y := by omega
        rw [← e]; simp [Builtin.max_, Builtin.max2]
      clear hk hcell hrd hrz hv bel hX3
      generalize zs.getD k 0 = y at *
      generalize lvl t y = ly at *
      generalize hm : topI t (zs.take k) = m at *
      obtain ⟨mm, hmm⟩ : ∃ mm, max m ly = mm := ⟨_, rfl⟩
      have HMM : Hid (topI t (zs.take (k + 1)) = mm) := by show _ = _; rw [HT.out, hmm]
      have hmax2 : ∀ (W : World), (Builtin.max_ #[3, 3] 3 #[.int .i64 m, .int .i64 ly]).run Try.prog W = .ok (.int .i64 mm) W := fun W => by rw [hmax, hmm]
      clear hmax hmm hm HT
      go_wp2_with (go_at_call 50; refine HLv.out.mono ?_; rintro e w' ⟨rfl, bE⟩)
      go_roundg (gk - 1)
      case measure => have := HK.out; omega
      case rel => exact ⟨k + 1, by have := HK.out; omega, by rw [HMM.out], by go_num, Below.step HB.out bE⟩
    · obtain rfl : k = zs.length := by omega
      rw [List.take_length]
      clear hk
      go_wp2
      go_ret
      exact ⟨rfl, HX3.out⟩
end Go.Proofs.Ytkchabdlpeifjaa
