/-
  learn, the document's side: False, asked, Level, Levels.
  KEEP: len below nil form rd mono one more grown lt size cell some none of ofNat add out step row get at mk new made look put del kept drew alloc has same other map rde take lit lev lstB
-/
import Derived.Test.YtgngdohhlhlcpaaLnRb
import Derived.Test.YtgngdohhlhlcpaaCopy
set_option linter.unusedSimpArgs false
set_option linter.unusedVariables false
namespace Go.Proofs.Ytgngdohhlhlcpaa
open Go Go.RowKit
/-- the document's: all literals false -/
def falR (t : List Ent) (c : List Int) : Bool := c.all fun x => (plc t x).isSome
theorem fal_same {t : List Ent} (h : Ws t) {c : List Int} (hc : c.all fmd = true) : falR t c = falB t c := by
  unfold falR falB
  rw [List.all_eq_true] at hc
  rw [Bool.eq_iff_iff, List.all_eq_true, List.all_eq_true]
  constructor
  · intro q x hx; rw [h.isF_plc (hc x hx)]; exact q x hx
  · intro q x hx; rw [← h.isF_plc (hc x hx)]; exact q x hx
set_option maxHeartbeats 1600000 in
theorem rFalse_any (v vc : Value) (t : List Ent) (zs : List Int) (w : World) (hr : RdE w v t) (hz : Rd w vc zs) (hf : zs.all fmd = true) :
    Calls Try.prog 56 #[v, vc] w fun e w' => e = .returned (.bool (falR t zs)) ∧ w' = w := by
  have hl := hz.len
  have hl2 := hr.len
  have HR : Hid (RdE w v t) := hr
  obtain ⟨a, c, rfl, hc, hm, _⟩ := hr.form
  obtain ⟨ua, uc, rfl, huc, hum, hcell⟩ := hz.form
  have HC : Hid (∀ k, k < zs.length → ∃ b off, ua = some ⟨b, off, none⟩ ∧ w.cell? ⟨b, off + k, none⟩ = some (.int .i64 (zs.getD k 0))) := hcell
  have HF : Hid (zs.all fmd = true) := hf
  clear hcell hz hr hf
  go_enter Try.func56, Try.ntmps56
  go_wp2
  go_loopg [5] zs.length (fun g i wr => ∃ k : Nat, k + g = zs.length ∧ i = .int .i64 k ∧ (zs.take k).all (fun x => (plc t x).isSome) = true ∧ wr = w)
  case atStart => exact ⟨0, by omega, rfl, rfl, rfl⟩
  case round =>
    obtain ⟨k, hk, rfl, hall, rfl⟩ := hrel
    have HA : Hid ((zs.take k).all (fun x => (plc t x).isSome) = true) := hall
    have HK : Hid (k + gk = zs.length) := hk
    clear hall
    by_cases hlt : k < zs.length
    · obtain ⟨b, off, rfl, hck⟩ := HC.out k hlt
      have hfy : fmd (zs.getD k 0) = true := (List.all_eq_true.1 HF.out) _ (getD_mem' hlt)
      have HPl : Hid (Calls Try.prog 37 #[.slice a t.length c, .int .i64 (zs.getD k 0)] wr fun e w' => e = .returned (.int .i64 (plI t (zs.getD k 0))) ∧ w' = wr) := rPlace_any _ t _ _ HR.out hfy
      have HM := all_more (fun x => (plc t x).isSome) zs k hlt
      have HN : Hid ((plc t (zs.getD k 0)).isSome = false → falR t zs = false) := fun h => all_no hlt h
      have HM2 : Hid ((plc t (zs.getD k 0)).isSome = true → (zs.take (k + 1)).all (fun x => (plc t x).isSome) = true) := fun h => by rw [HM, HA.out]; exact h
      have hpr := plI_lt t (zs.getD k 0)
      clear hk HM hfy
      generalize zs.getD k 0 = y at *
      generalize plI t y = pi at *
      cases hpl : (plc t y).isSome
      · have HF2 : Hid (falR t zs = false) := HN.out hpl
        have hneg : pi < 0 := by rw [show (plc t y).isNone = !(plc t y).isSome by cases plc t y <;> rfl, hpl] at hpr; simpa using hpr
        clear HN HM2 hpr
        go_wp2_with (go_at_call 37; refine HPl.out.mono ?_; rintro e w' ⟨rfl, hw⟩; obtain rfl := hw.symm)
        go_ret
        exact ⟨ret_bool HF2.out.symm, rfl⟩
      · have HT := HM2.out hpl
        have HT2 : Hid ((zs.take (k + 1)).all (fun x => (plc t x).isSome) = true) := HT
        have hneg : ¬ pi < 0 := by rw [show (plc t y).isNone = !(plc t y).isSome by cases plc t y <;> rfl, hpl] at hpr; simpa using hpr
        clear HN HM2 hpr HT
        go_wp2_with (go_at_call 37; refine HPl.out.mono ?_; rintro e w' ⟨rfl, hw⟩; obtain rfl := hw.symm)
        go_roundg (gk - 1)
        case measure => have := HK.out; omega
        case rel => exact ⟨k + 1, by have := HK.out; omega, by go_num, HT2.out, rfl⟩
    · obtain rfl : k = zs.length := by omega
      have HE : Hid (falR t zs = true) := by have := HA.out; rw [List.take_length] at this; exact this
      clear hk
      go_wp2
      go_ret
      exact ⟨ret_bool HE.out.symm, rfl⟩
set_option maxHeartbeats 1600000 in
theorem rAsked_any (v vc : Value) (t : List Ent) (zs : List Int) (w : World) (hr : RdE w v t) (hz : Rd w vc zs) :
    Calls Try.prog 33 #[v, vc] w fun e w' => e = .returned (.int .i64 (askI t zs)) ∧ ∃ m, w' = w.drewN m := by
  have HFo : Hid (Calls Try.prog 17 #[v] w fun e w' => e = .returned (.bool (frmE t)) ∧ ∃ m, w' = w.drewN m) := r15Formed_any v t w hr
  have HSo : Hid (∀ m, Calls Try.prog 42 #[vc] (w.drewN m) fun e w' => e = .returned (.bool (zs.all fmd)) ∧ w' = w.drewN m) := fun m => rSound15_any _ zs _ (hz.below (below_drewN w m))
  cases h1 : frmE t
  · have HE : Hid (askI t zs = 1) := by show _ = _; unfold askI; rw [h1]; rfl
    rw [h1] at HFo
    clear h1 hr hz
    go_enter Try.func33, Try.ntmps33
    go_wp2_with (first | (go_at_call 17; refine HFo.out.mono ?_; rintro e w' ⟨rfl, n1, hw⟩; obtain rfl := hw) | (go_at_call 42; refine (HSo.out _).mono ?_; rintro e w' ⟨rfl, hw⟩; obtain rfl := hw.symm))
    go_ret
    exact ⟨ret_int HE.out.symm, _, rfl⟩
  cases h2 : zs.all fmd
  · have HE : Hid (askI t zs = 1) := by show _ = _; unfold askI; rw [h1, h2]; rfl
    rw [h1] at HFo
    rw [h2] at HSo
    clear h1 hr hz
    go_enter Try.func33, Try.ntmps33
    go_wp2_with (first | (go_at_call 17; refine HFo.out.mono ?_; rintro e w' ⟨rfl, n1, hw⟩; obtain rfl := hw) | (go_at_call 42; refine (HSo.out _).mono ?_; rintro e w' ⟨rfl, hw⟩; obtain rfl := hw.symm))
    go_ret
    exact ⟨ret_int HE.out.symm, _, rfl⟩
  have hws := (frmE_iff t).1 h1
  have HFa : Hid (∀ m, Calls Try.prog 56 #[v, vc] (w.drewN m) fun e w' => e = .returned (.bool (falB t zs)) ∧ w' = w.drewN m) := fun m => by
    rw [← fal_same hws h2]
    exact rFalse_any _ _ t zs _ (hr.drewN m) (hz.below (below_drewN w m)) h2
  have HE : Hid (askI t zs = if falB t zs then 0 else 2) := by show _ = _; unfold askI; rw [h1, h2]; rfl
  rw [h1] at HFo
  rw [h2] at HSo
  cases h3 : falB t zs
  all_goals
    rw [h3] at HFa HE
    clear h1 h2 h3 hr hz hws
    go_enter Try.func33, Try.ntmps33
    go_wp2_with (first | (go_at_call 17; refine HFo.out.mono ?_; rintro e w' ⟨rfl, n1, hw⟩; obtain rfl := hw) | (go_at_call 42; refine (HSo.out _).mono ?_; rintro e w' ⟨rfl, hw⟩; obtain rfl := hw.symm) | (go_at_call 56; refine (HFa.out _).mono ?_; rintro e w' ⟨rfl, hw⟩; obtain rfl := hw.symm))
    go_ret
    exact ⟨ret_int (by rw [HE.out]; rfl), _, rfl⟩
/-- a literal's level, as the document says it -/
def lvR (t : List Ent) (x : Int) : Int := match plc t x with | some i => (t.getD i e0).2.1 | none => 0
theorem Ws.lvR_lvl {t : List Ent} (h : Ws t) {x : Int} (hx : isF t x = true) : lvR t x = lvl t x := by
  obtain ⟨h1, i, h2⟩ := h.isF_iff.1 hx
  unfold lvR lvl
  rw [h2, h.plc_vpl h1 h2]
set_option maxHeartbeats 1600000 in
theorem rLevel_any (v : Value) (t : List Ent) (x : Int) (w : World) (hr : RdE w v t) (hx : fmd x = true) :
    Calls Try.prog 35 #[v, .int .i64 x] w fun e w' => e = .returned (.int .i64 (lvR t x)) ∧ w' = w := by
  have hl := hr.len
  have HPl : Hid (Calls Try.prog 37 #[v, .int .i64 x] w fun e w' => e = .returned (.int .i64 (plI t x)) ∧ w' = w) := rPlace_any _ t _ _ hr hx
  obtain ⟨a, c, rfl, hc, hm, _⟩ := hr.form
  cases h : plc t x with
  | none =>
    have HE : Hid (lvR t x = 0) := by show _ = _; unfold lvR; rw [h]
    rw [plI_none h] at HPl
    clear h hr
    go_enter Try.func35, Try.ntmps35
    go_wp2_with (go_at_call 37; refine HPl.out.mono ?_; rintro e w' ⟨rfl, hw⟩; obtain rfl := hw.symm)
    go_ret
    exact ⟨ret_int HE.out.symm, rfl⟩
  | some i =>
    have hi := (plc_some h).1
    obtain ⟨b, off, u, rfl, hbl, c0, c1, c2, hr2⟩ := hr.at hi
    have HE : Hid (lvR t x = (t.getD i e0).2.1) := by show _ = _; unfold lvR; rw [h]
    rw [plI_some h] at HPl
    clear h hr c0 c2 hr2
    generalize (t.getD i e0).2.1 = lv at *
    go_enter Try.func35, Try.ntmps35
    go_wp2_with (go_at_call 37; refine HPl.out.mono ?_; rintro e w' ⟨rfl, hw⟩; obtain rfl := hw.symm)
    go_ret
    exact ⟨ret_int HE.out.symm, rfl⟩
end Go.Proofs.Ytgngdohhlhlcpaa
