/-
  learn: implies, fits, read.
  KEEP: len below nil form rd mono one more grown lt size cell some none of ofNat add out step row get at mk new made look put del kept drew alloc has same other map rde take lit lev lstB pre ws cells bnd
-/
import Derived.Test.YtgngdohhlhlcpaaLnA
import Derived.Test.YtgngdohhlhlcpaaLnRb
import Derived.Test.YtgngdohhlhlcpaaTidy
set_option linter.unusedSimpArgs false
set_option linter.unusedVariables false
namespace Go.Proofs.Ytgngdohhlhlcpaa
open Go Go.RowKit
theorem box_at {w : World} {xs : Array Value} {T : TypeId} {W : World} {j : Nat} {v : Value} (hb : Below (w.alloc (.cells xs T)).heap.size (w.alloc (.cells xs T)) W) (hv : xs[j]? = some v) : W.cell? ⟨w.heap.size, j, none⟩ = some v := by
  rw [hb.cell (p := ⟨w.heap.size, j, none⟩) (by show w.heap.size < _; simp), World.cell?_alloc_mark]; exact hv
set_option maxHeartbeats 3200000 in
theorem implies_any (a : Option Addr) (t p : List Ent) (c g : Nat) (lt lv : Int) (u : Value) (zs : List Int) (w : World) (h : Rz w a t c g p) (hr : Rd w u zs) (hf : fmd lt = true) :
    Calls Try.prog 60 #[rV a t.length c g, .agg #[.int .i64 lt, .int .i64 lv, u]] w fun e w' => e = .returned (.bool (rsB p (lt, lv, zs))) ∧ Below w.heap.size w w' := by
  have hl := hr.len
  obtain ⟨ua, uc, rfl, huc, hum, hcell⟩ := hr.form
  have hb1 := below_box w (.cells #[.slice a t.length c, .map (some g)] 51)
  obtain ⟨X, hX⟩ : ∃ X, w.heap.size = X := ⟨_, rfl⟩
  obtain ⟨w1, hw1⟩ : ∃ w1, w.alloc (.cells #[.slice a t.length c, .map (some g)] 51) = w1 := ⟨_, rfl⟩
  have hX1 : w1.heap.size = X + 1 := by rw [← hw1]; simp [hX]
  have hb2 := below_box w1 (.cells #[.int .i64 lt, .int .i64 lv, .slice ua zs.length uc] 47)
  obtain ⟨w2, hw2⟩ : ∃ w2, w1.alloc (.cells #[.int .i64 lt, .int .i64 lv, .slice ua zs.length uc] 47) = w2 := ⟨_, rfl⟩
  have HF : Hid (∀ W, Below w2.heap.size w2 W → Below X w W ∧ W.cell? ⟨X, 0, none⟩ = some (.slice a t.length c) ∧ W.cell? ⟨X, 1, none⟩ = some (.map (some g)) ∧ W.cell? ⟨X + 1, 0, none⟩ = some (.int .i64 lt) ∧ W.cell? ⟨X + 1, 2, none⟩ = some (.slice ua zs.length uc) ∧ Rz W a t c g p ∧ Rd W (.slice ua zs.length uc) zs) := fun W hW => by
    have hW1 : Below w1.heap.size w1 W := by rw [← hw2] at hW; exact Below.step hb2 hW
    have hW0 : Below w.heap.size w W := by rw [← hw1] at hW1; exact Below.step hb1 hW1
    refine ⟨by rw [← hX]; exact hW0, ?_, ?_, ?_, ?_, h.below hW0, hr.below hW0⟩
    · rw [← hX]; rw [← hw1] at hW1; exact box_at hW1 rfl
    · rw [← hX]; rw [← hw1] at hW1; exact box_at hW1 rfl
    · rw [← hX1]; rw [← hw2] at hW; exact box_at hW rfl
    · rw [← hX1]; rw [← hw2] at hW; exact box_at hW rfl
  have HHas : Hid (Calls Try.prog 66 #[.slice ua zs.length uc, .int .i64 lt] w2 fun e w' => e = .returned (.bool (zs.contains lt)) ∧ w' = w2) := by
    have := has_any (.slice ua zs.length uc) zs lt w2 (HF.out w2 (Below.refl _ _)).2.2.2.2.2.2
    rw [hf] at this
    exact this
  have HRB : Hid (rsB p (lt, lv, zs) = (zs.contains lt && zs.all (fun y => y == lt || isF p y))) := rfl
  obtain ⟨RB, hRB⟩ : ∃ RB, rsB p (lt, lv, zs) = RB := ⟨_, rfl⟩
  rw [hRB] at HRB ⊢
  obtain ⟨_, d0, d1, d2, d3, _, _⟩ := HF.out w2 (Below.refl _ _)
  rw [hX]
  clear hb1 hb2 hcell hr h hRB hf
  cases hh : zs.contains lt
  · have HN : Hid (RB = false) := by show _ = _; rw [HRB.out, hh]; rfl
    rw [hh] at HHas
    clear hh HRB
    go_enter Try.func60, Try.ntmps60
    go_upto_region 1 with fail
    go_wp2_with (go_at_call 66; refine HHas.out.mono ?_; rintro e w' ⟨rfl, hw⟩; obtain rfl := hw.symm)
    go_ret
    exact ⟨ret_bool HN.out.symm, (HF.out _ (Below.refl _ _)).1⟩
  have HR3 : Hid (RB = zs.all (fun y => y == lt || isF p y)) := by show _ = _; rw [HRB.out, hh]; rfl
  rw [hh] at HHas
  clear hh HRB
  go_enter Try.func60, Try.ntmps60
  go_upto_region 1 with fail
  go_wp2_with (go_at_call 66; refine HHas.out.mono ?_; rintro e w' ⟨rfl, hw⟩; obtain rfl := hw.symm)
  go_loopg [16] zs.length (fun g' j wr => ∃ k : Nat, k + g' = zs.length ∧ j = .int .i64 k ∧ (zs.take k).all (fun y => y == lt || isF p y) = true ∧ Below w2.heap.size w2 wr)
  case atStart => exact ⟨0, by omega, rfl, rfl, Below.refl _ _⟩
  case round =>
    obtain ⟨k, hk, rfl, hall, bel⟩ := hrel
    have HA : Hid ((zs.take k).all (fun y => y == lt || isF p y) = true) := hall
    have HK : Hid (k + gk = zs.length) := hk
    have HB : Hid (Below w2.heap.size w2 wr) := bel
    obtain ⟨hX3, f0, f1, f2, f3, hrz, hrd⟩ := HF.out wr bel
    have HX3 : Hid (Below X w wr) := hX3
    clear hall hX3 bel d0 d1 d2 d3
    by_cases hlt : k < zs.length
    · obtain ⟨ua', uc', e', _, _, hcell⟩ := hrd.form
      injection e' with q1 q2 q3
      subst q1 q3
      obtain ⟨b2, off2, rfl, hck⟩ := hcell k hlt
      have HM := all_more (fun y => y == lt || isF p y) zs k hlt
      have HN : Hid ((zs.getD k 0 == lt || isF p (zs.getD k 0)) = false → RB = false) := fun h => by rw [HR3.out]; exact all_no hlt h
      have HM2 : Hid ((zs.getD k 0 == lt || isF p (zs.getD k 0)) = true → (zs.take (k + 1)).all (fun y => y == lt || isF p y) = true) := fun h => by rw [HM, HA.out]; exact h
      have HIs : Hid (Calls Try.prog 46 #[rV a t.length c g, .int .i64 (zs.getD k 0)] wr fun e w' => e = .returned (.bool (isF p (zs.getD k 0))) ∧ Below wr.heap.size wr w') := isFalse_any a t p c g _ wr hrz
      clear hk HM hcell hrz hrd
      generalize zs.getD k 0 = y at *
      generalize isF p y = yf at *
      by_cases he : y = lt
      · have HT : Hid ((zs.take (k + 1)).all (fun y => y == lt || isF p y) = true) := HM2.out (by rw [he]; simp)
        have heb : (y == lt) = true := by simpa using he
        clear HIs HN HM2
        go_wp2_with fail
        go_roundg (gk - 1)
        case measure => have := HK.out; omega
        case rel => exact ⟨k + 1, by have := HK.out; omega, by go_num, HT.out, HB.out⟩
      have heb : (y == lt) = false := by simpa using he
      have hne : (y != lt) = true := by rw [bne, heb]; rfl
      cases yf
      · have HT : Hid (RB = false) := HN.out (by rw [heb]; rfl)
        clear HN HM2
        go_wp2_with (go_at_call 46; refine HIs.out.mono ?_; rintro e w' ⟨rfl, bE⟩)
        go_ret
        exact ⟨ret_bool HT.out.symm, (HF.out _ (Below.step HB.out bE)).1⟩
      · have HT : Hid ((zs.take (k + 1)).all (fun y => y == lt || isF p y) = true) := HM2.out (by simp)
        clear HN HM2
        go_wp2_with (go_at_call 46; refine HIs.out.mono ?_; rintro e w' ⟨rfl, bE⟩)
        go_roundg (gk - 1)
        case measure => have := HK.out; omega
        case rel => exact ⟨k + 1, by have := HK.out; omega, by go_num, HT.out, Below.step HB.out bE⟩
    · obtain rfl : k = zs.length := by omega
      have HE : Hid (RB = true) := by have := HA.out; rw [List.take_length] at this; show _ = _; rw [HR3.out]; exact this
      clear hk
      go_wp2
      go_ret
      exact ⟨ret_bool HE.out.symm, HX3.out⟩
set_option maxHeartbeats 3200000 in
theorem l15fits_any (a : Option Addr) (t p : List Ent) (c g : Nat) (lt lv q : Int) (u : Value) (zs : List Int) (w : World) (h : Rz w a t c g p) (hr : Rd w u zs) (hq : q = lstL p) :
    Calls Try.prog 54 #[rV a t.length c g, .agg #[.int .i64 lt, .int .i64 lv, u], .int .i64 q] w fun e w' => e = .returned (.bool (okE p (lt, lv, zs))) ∧ Below w.heap.size w w' := by
  have hl := hr.len
  have hqb := h.ws.lstB
  have hpl : p.length ≤ 1048576 := h.ws.len
  rw [← hq] at hqb
  have hwr : IntKind.i64.wrap (q + 1) = q + 1 := by rw [IntKind.wrap_i64]; omega
  have hv := varOf_le lt
  obtain ⟨v, hve⟩ : ∃ v, varOf lt = v := ⟨_, rfl⟩
  rw [hve] at hv
  have HV : Hid (∀ W : World, Calls Try.prog 32 #[.int .i64 lt] W fun e w' => e = .returned (.int .i64 v) ∧ w' = W) := fun W => by rw [← hve]; exact var_any _ _
  obtain ⟨ua, uc, rfl, huc, hum, _⟩ := hr.form
  have hb1 := below_box w (.cells #[.slice a t.length c, .map (some g)] 51)
  obtain ⟨X, hX⟩ : ∃ X, w.heap.size = X := ⟨_, rfl⟩
  obtain ⟨w1, hw1⟩ : ∃ w1, w.alloc (.cells #[.slice a t.length c, .map (some g)] 51) = w1 := ⟨_, rfl⟩
  have hX1 : w1.heap.size = X + 1 := by rw [← hw1]; simp [hX]
  have hb2 := below_box w1 (.cells #[.int .i64 lt, .int .i64 lv, .slice ua zs.length uc] 47)
  obtain ⟨w2, hw2⟩ : ∃ w2, w1.alloc (.cells #[.int .i64 lt, .int .i64 lv, .slice ua zs.length uc] 47) = w2 := ⟨_, rfl⟩
  have HF : Hid (∀ W, Below w2.heap.size w2 W → Below X w W ∧ W.cell? ⟨X, 0, none⟩ = some (.slice a t.length c) ∧ W.cell? ⟨X, 1, none⟩ = some (.map (some g)) ∧ W.cell? ⟨X + 1, 0, none⟩ = some (.int .i64 lt) ∧ W.cell? ⟨X + 1, 1, none⟩ = some (.int .i64 lv) ∧ W.cell? ⟨X + 1, 2, none⟩ = some (.slice ua zs.length uc) ∧ Rz W a t c g p ∧ Rd W (.slice ua zs.length uc) zs) := fun W hW => by
    have hW1 : Below w1.heap.size w1 W := by rw [← hw2] at hW; exact Below.step hb2 hW
    have hW0 : Below w.heap.size w W := by rw [← hw1] at hW1; exact Below.step hb1 hW1
    refine ⟨by rw [← hX]; exact hW0, ?_, ?_, ?_, ?_, ?_, h.below hW0, hr.below hW0⟩
    · rw [← hX]; rw [← hw1] at hW1; exact box_at hW1 rfl
    · rw [← hX]; rw [← hw1] at hW1; exact box_at hW1 rfl
    · rw [← hX1]; rw [← hw2] at hW; exact box_at hW rfl
    · rw [← hX1]; rw [← hw2] at hW; exact box_at hW rfl
    · rw [← hX1]; rw [← hw2] at hW; exact box_at hW rfl
  obtain ⟨_, d0, d1, d2, d3, d4, hz2, _⟩ := HF.out w2 (Below.refl _ _)
  have HB : Hid (∀ W, Below w2.heap.size w2 W → Below X w W) := fun W hW => (HF.out W hW).1
  have HFo : Hid (Calls Try.prog 55 #[.int .i64 lt] w2 fun e w' => e = .returned (.bool (fmd lt)) ∧ w' = w2) := formed_any _ _
  have hlk : ∀ k, (Instr.lookup 49 (.map (some g)) (.int .i64 v) true).run Try.prog (w2.drewN k) = .ok (.tuple #[.int .i64 (((vpl p v).getD 0 : Nat) : Int), .bool (vpl p v).isSome]) (w2.drewN k) := fun k => (hz2.drewN k).map.look (by omega) (by omega)
  have HOk : Hid (okE p (lt, lv, zs) = (fmd lt && (vpl p v).isNone && ((lv == q || lv == q + 1) && (lv == 0 || (lv != q) == (zs.length == 0))) && (zs.length == 0 || rsB p (lt, lv, zs)))) := by rw [hq, ← hve]; exact rfl
  obtain ⟨OK, hOK⟩ : ∃ OK, okE p (lt, lv, zs) = OK := ⟨_, rfl⟩
  rw [hOK] at HOk ⊢
  rw [hX]
  cases hf : fmd lt
  · have HN : Hid (OK = false) := by show _ = _; rw [HOk.out, hf]; rfl
    rw [hf] at HFo
    clear hf HOk hlk HV h hr hb1 hb2 HF hq hve hqb hz2
    go_enter Try.func54, Try.ntmps54
    go_wp2_with (go_at_call 55; refine HFo.out.mono ?_; rintro e w' ⟨rfl, hw⟩; obtain rfl := hw.symm)
    go_ret
    exact ⟨ret_bool HN.out.symm, HB.out _ (Below.refl _ _)⟩
  have HIm : Hid (∀ W, Below w2.heap.size w2 W → Calls Try.prog 60 #[rV a t.length c g, .agg #[.int .i64 lt, .int .i64 lv, .slice ua zs.length uc]] W fun e w' => e = .returned (.bool (rsB p (lt, lv, zs))) ∧ Below w2.heap.size w2 w') := fun W hW => (implies_any a t p c g lt lv _ zs W (HF.out W hW).2.2.2.2.2.2.1 (HF.out W hW).2.2.2.2.2.2.2 hf).mono fun e w' k => ⟨k.1, Below.step hW k.2⟩
  rw [hf] at HFo HOk
  clear hf h hr hb1 hb2 HF hq hve hOK hz2
  generalize rsB p (lt, lv, zs) = RB at *
  cases e : vpl p v with
  | some i =>
    have HN : Hid (OK = false) := by show _ = _; rw [HOk.out, e]; rfl
    rw [e] at hlk
    dsimp only [Option.getD, Option.isSome] at hlk
    clear e HOk HIm
    go_enter Try.func54, Try.ntmps54
    go_upto_region 3 with (go_at_call 55; refine HFo.out.mono ?_; rintro e w' ⟨rfl, hw⟩; obtain rfl := hw.symm)
    go_quiet ((go_at_call 32; exact Calls.quiet_of_same (HV.out _)))
    go_wp2_with fail
    go_ret
    exact ⟨ret_bool HN.out.symm, HB.out _ (below_drewN _ _)⟩
  | none =>
    rw [e] at hlk HOk
    dsimp only [Option.getD, Option.isSome] at hlk
    clear e
    by_cases h1 : lv = q
    · subst h1
      have hb : ¬ lv < lv := Int.lt_irrefl lv
      by_cases h0 : lv = 0
      · subst h0
        by_cases hz : zs.length = 0
        · have HN : Hid (OK = true) := by show _ = _; rw [HOk.out, hz]; rfl
          rw [hz] at d4 hw2
          clear HOk HIm
          go_enter Try.func54, Try.ntmps54
          go_upto_region 3 with (go_at_call 55; refine HFo.out.mono ?_; rintro e w' ⟨rfl, hw⟩; obtain rfl := hw.symm)
          go_quiet ((go_at_call 32; exact Calls.quiet_of_same (HV.out _)))
          go_upto_region 8 with fail
          go_quiet (fail)
          go_wp2_with fail
          go_ret
          exact ⟨ret_bool HN.out.symm, HB.out _ (by first | exact below_drewN _ _ | exact Below.step (below_drewN _ _) (below_drewN _ _))⟩
        · have HN : Hid (OK = RB) := by
            show OK = RB
            have h := HOk.out
            rw [show (zs.length == 0) = false by simpa using hz] at h
            simpa using h
          have hzi : ((zs.length : Int) == 0) = false := beq_eq_false_iff_ne.2 (by omega)
          clear HOk
          go_enter Try.func54, Try.ntmps54
          go_upto_region 3 with (go_at_call 55; refine HFo.out.mono ?_; rintro e w' ⟨rfl, hw⟩; obtain rfl := hw.symm)
          go_quiet ((go_at_call 32; exact Calls.quiet_of_same (HV.out _)))
          go_upto_region 8 with fail
          go_quiet (fail)
          go_wp2_with (first | (go_at_call 60; refine (HIm.out _ (below_drewN _ _)).mono ?_; rintro e w' ⟨rfl, bE⟩) | (go_at_call 60; refine (HIm.out _ (Below.step (below_drewN _ _) (below_drewN _ _))).mono ?_; rintro e w' ⟨rfl, bE⟩))
          go_ret
          exact ⟨ret_bool HN.out.symm, HB.out _ bE⟩
      · have h0p : 0 < lv := by omega
        by_cases hz : zs.length = 0
        · have HN : Hid (OK = false) := by
            show OK = false
            have h := HOk.out
            rw [hz, show (lv == 0) = false by simpa using h0] at h
            simpa using h
          rw [hz] at d4 hw2
          clear HOk HIm
          go_enter Try.func54, Try.ntmps54
          go_upto_region 3 with (go_at_call 55; refine HFo.out.mono ?_; rintro e w' ⟨rfl, hw⟩; obtain rfl := hw.symm)
          go_quiet ((go_at_call 32; exact Calls.quiet_of_same (HV.out _)))
          go_upto_region 8 with fail
          go_quiet (fail)
          go_wp2_with fail
          go_ret
          exact ⟨ret_bool HN.out.symm, HB.out _ (by first | exact below_drewN _ _ | exact Below.step (below_drewN _ _) (below_drewN _ _))⟩
        · have HN : Hid (OK = RB) := by
            show OK = RB
            have h := HOk.out
            rw [show (zs.length == 0) = false by simpa using hz] at h
            simpa using h
          have hzi : ((zs.length : Int) == 0) = false := beq_eq_false_iff_ne.2 (by omega)
          clear HOk
          go_enter Try.func54, Try.ntmps54
          go_upto_region 3 with (go_at_call 55; refine HFo.out.mono ?_; rintro e w' ⟨rfl, hw⟩; obtain rfl := hw.symm)
          go_quiet ((go_at_call 32; exact Calls.quiet_of_same (HV.out _)))
          go_upto_region 8 with fail
          go_quiet (fail)
          go_wp2_with (first | (go_at_call 60; refine (HIm.out _ (below_drewN _ _)).mono ?_; rintro e w' ⟨rfl, bE⟩) | (go_at_call 60; refine (HIm.out _ (Below.step (below_drewN _ _) (below_drewN _ _))).mono ?_; rintro e w' ⟨rfl, bE⟩))
          go_ret
          exact ⟨ret_bool HN.out.symm, HB.out _ bE⟩
    · by_cases h2 : lv = q + 1
      · subst h2
        have h0p : 0 < q + 1 := by omega
        have hb : q < q + 1 := by omega
        by_cases hz : zs.length = 0
        · have HN : Hid (OK = true) := by
            show OK = true
            have h := HOk.out
            rw [hz, show (q + 1 == 0) = false by simp; omega, show (q + 1 != q) = true by simp; omega] at h
            simpa using h
          rw [hz] at d4 hw2
          clear HOk HIm
          go_enter Try.func54, Try.ntmps54
          go_upto_region 3 with (go_at_call 55; refine HFo.out.mono ?_; rintro e w' ⟨rfl, hw⟩; obtain rfl := hw.symm)
          go_quiet ((go_at_call 32; exact Calls.quiet_of_same (HV.out _)))
          go_upto_region 8 with fail
          go_quiet (fail)
          go_wp2_with fail
          go_ret
          exact ⟨ret_bool HN.out.symm, HB.out _ (by first | exact below_drewN _ _ | exact Below.step (below_drewN _ _) (below_drewN _ _))⟩
        · have HN : Hid (OK = false) := by
            show OK = false
            have h := HOk.out
            rw [show (zs.length == 0) = false by simpa using hz, show (q + 1 == 0) = false by simp; omega, show (q + 1 != q) = true by simp; omega] at h
            simpa using h
          have hzi : ((zs.length : Int) == 0) = false := beq_eq_false_iff_ne.2 (by omega)
          clear HOk HIm
          go_enter Try.func54, Try.ntmps54
          go_upto_region 3 with (go_at_call 55; refine HFo.out.mono ?_; rintro e w' ⟨rfl, hw⟩; obtain rfl := hw.symm)
          go_quiet ((go_at_call 32; exact Calls.quiet_of_same (HV.out _)))
          go_upto_region 8 with fail
          go_quiet (fail)
          go_wp2_with fail
          go_ret
          exact ⟨ret_bool HN.out.symm, HB.out _ (by first | exact below_drewN _ _ | exact Below.step (below_drewN _ _) (below_drewN _ _))⟩
      · have HN : Hid (OK = false) := by
          show OK = false
          have h := HOk.out
          rw [show (lv == q) = false by simpa using h1, show (lv == q + 1) = false by simpa using h2] at h
          simpa using h
        have hb3 : (lv != q) = true := by simpa using h1
        have hb4 : (lv != q + 1) = true := by simpa using h2
        clear HOk HIm
        go_enter Try.func54, Try.ntmps54
        go_upto_region 3 with (go_at_call 55; refine HFo.out.mono ?_; rintro e w' ⟨rfl, hw⟩; obtain rfl := hw.symm)
        go_quiet ((go_at_call 32; exact Calls.quiet_of_same (HV.out _)))
        go_wp2_with fail
        go_ret
        exact ⟨ret_bool HN.out.symm, HB.out _ (below_drewN _ _)⟩
end Go.Proofs.Ytgngdohhlhlcpaa
