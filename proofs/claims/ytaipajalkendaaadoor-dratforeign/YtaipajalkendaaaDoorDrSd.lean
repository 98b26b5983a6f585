/-
  The statements' own 'sound', walked.
  KEEP: below form len
-/
import Derived.Test.YtaipajalkendaaaDoorDrM
import Derived.Test.YtaipajalkendaaaDoorForms
import Derived.Handy
import Derived.Deep.LoopGhost
set_option linter.unusedSimpArgs false
set_option linter.unusedVariables false
namespace Go.Proofs.YtaipajalkendaaaDoor
open Go Go.RowKit

set_option maxRecDepth 100000 in
set_option maxHeartbeats 3200000 in
theorem sound9_any (s : Value) (l : List Stp) (w : World) (hr : RdZ w s l) :
    Calls Tryd.prog 19 #[s] w fun e w' => e = .returned (.bool (sndS l)) ∧ w' = w := by
  have hl := hr.len
  have HR : Hid (RdZ w s l) := hr
  obtain ⟨a, c, rfl, hc, hm, _⟩ := hr.form
  clear hr
  go_enter Tryd.func19, Tryd.ntmps19
  go_wp2
  go_loopg [3] l.length (fun g i wr => ∃ k : Nat, k + g = l.length ∧ i = .int .i64 k ∧ sndS (l.take k) = true ∧ wr = w)
  case atStart => exact ⟨0, by omega, rfl, rfl, rfl⟩
  case round =>
    obtain ⟨k, hk, rfl, hsn, rfl⟩ := hrel
    have HK : Hid (k + gk = l.length) := hk
    have HSN : Hid (sndS (l.take k) = true) := hsn
    clear hsn
    by_cases hlt : k < l.length
    · obtain ⟨a', c', e', _, _, hcell⟩ := HR.out.form
      have e3 : a' = a ∧ c' = c := by injection e' with q1 q2 q3; exact ⟨q1.symm, q3.symm⟩
      obtain ⟨rfl, rfl⟩ := e3
      obtain ⟨b, off, uc, rfl, hbl, hd, hu, hrd⟩ := hcell k hlt
      have HS : Hid (sndS (l.take (k + 1)) = (sndS (l.take k) && (l.getD k (false, [])).2.all fmd)) := by show _ = _; unfold sndS; rw [all_take_getD _ l (false, []) k hlt]
      obtain ⟨ac, cc, rfl, hcc, hcm, _⟩ := hrd.form
      have HRd : Hid (Rd wr (.slice ac (l.getD k (false, [])).2.length cc) (l.getD k (false, [])).2) := hrd
      have HNo : Hid ((l.getD k (false, [])).2.all fmd = false → sndS l = false) := fun h => by unfold sndS; exact all_false_getD (d := (false, [])) hlt h
      clear hk hcell e' hrd hd
      generalize l.getD k (false, []) = xk at *
      obtain ⟨dd, zs⟩ := xk
      dsimp only at *
      have hzl := HRd.out.len
      go_wp2
      go_loopg [4] zs.length (fun g i wq => ∃ j : Nat, j + g = zs.length ∧ i = .int .i64 j ∧ (zs.take j).all fmd = true ∧ wq = wr)
      case atStart => exact ⟨0, by omega, rfl, rfl, rfl⟩
      case round =>
        obtain ⟨j, hj, rfl, hall, rfl⟩ := hrel
        have HJ : Hid (j + gk = zs.length) := hj
        have HAll : Hid ((zs.take j).all fmd = true) := hall
        clear hall
        by_cases hjt : j < zs.length
        · obtain ⟨a', c', e', _, _, hcell⟩ := HRd.out.form
          have e3 : a' = ac ∧ c' = cc := by injection e' with q1 q2 q3; exact ⟨q1.symm, q3.symm⟩
          obtain ⟨rfl, rfl⟩ := e3
          obtain ⟨b2, off2, rfl, hcj⟩ := hcell j hjt
          have HA2 : Hid ((zs.take (j + 1)).all fmd = ((zs.take j).all fmd && fmd (zs.getD j 0))) := all_take_getD fmd zs 0 j hjt
          have HF2 : Hid (fmd (zs.getD j 0) = false → zs.all fmd = false) := fun h => all_false_getD (d := 0) hjt h
          clear hj hcell e'
          generalize zs.getD j 0 = z at *
          rcases fmd_cases z with ⟨hf, h0, h1, h2⟩ | ⟨hf, hbad⟩
          · have q0 : (z == 0) = false := by simpa using h0
            have q1 : ¬ 1048576 < z := by omega
            have q2 : ¬ z < -1048576 := by omega
            have HA3 : Hid ((zs.take (j + 1)).all fmd = true) := by show _ = _; rw [HA2.out, HAll.out, hf]; rfl
            clear hf h0
            go_wp2
            go_roundg (gk - 1)
            case measure => have := HJ.out; omega
            case rel => exact ⟨j + 1, by have := HJ.out; omega, by go_num, HA3.out, rfl⟩
          · have HFin : Hid (sndS l = false) := HNo.out (HF2.out hf)
            clear hf
            have h3 : z = 0 ∨ (¬ z = 0 ∧ 1048576 < z) ∨ (¬ z = 0 ∧ ¬ 1048576 < z ∧ z < -1048576) := by omega
            clear hbad
            rcases h3 with rfl | ⟨g0, g1⟩ | ⟨g0, g1, g2⟩
            · go_wp2
              go_ret
              exact ⟨ret_bool HFin.out.symm, rfl⟩
            · have q0 : (z == 0) = false := by simpa using g0
              clear g0
              go_wp2
              go_ret
              exact ⟨ret_bool HFin.out.symm, rfl⟩
            · have q0 : (z == 0) = false := by simpa using g0
              clear g0
              go_wp2
              go_ret
              exact ⟨ret_bool HFin.out.symm, rfl⟩
        · obtain rfl : j = zs.length := by omega
          have HSt : Hid (sndS (l.take (k + 1)) = true) := by
            have := HAll.out; rw [List.take_length] at this
            show _ = _; rw [HS.out, HSN.out, this]; rfl
          clear hj
          go_wp2
          go_roundg (l.length - k - 1)
          case measure => have := HK.out; omega
          case rel => exact ⟨k + 1, by have := HK.out; omega, by go_num, HSt.out, rfl⟩
    · obtain rfl : k = l.length := by omega
      have HE : Hid (sndS l = true) := by have := HSN.out; rw [List.take_length] at this; exact this
      clear hk
      go_wp2
      go_ret
      exact ⟨ret_bool HE.out.symm, rfl⟩

end Go.Proofs.YtaipajalkendaaaDoor
