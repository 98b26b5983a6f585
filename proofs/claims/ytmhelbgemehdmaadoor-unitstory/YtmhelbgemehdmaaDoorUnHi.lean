/-
  HasInt, walked (for seats without the formulas' remains).
  KEEP: set on app at below new trans refl start ap kept rd rds mono lt add none own nil put len pos setF setV putL putR other neV same_any
-/
import Derived.Test.YtmhelbgemehdmaaDoorUnL
set_option linter.unusedSimpArgs false
set_option linter.unusedVariables false
namespace Go.Proofs.YtmhelbgemehdmaaDoor
open Go Go.RowKit
theorem contains_more6 (zs : List Int) (k : Nat) (h : k < zs.length) (l : Int) : (zs.take (k + 1)).contains l = ((zs.take k).contains l || (l == zs.getD k 0)) := by
  rw [take_succ_getD zs 0 k h, List.contains_eq_any_beq, List.contains_eq_any_beq, List.any_append]; simp
set_option maxHeartbeats 1600000 in
theorem hasInt6_any (v : Value) (zs : List Int) (l : Int) (w : World) (hr : Rd w v zs) :
    Calls Tryd.prog 28 #[v, .int .i64 l] w fun e w' => e = .returned (.bool (zs.contains l)) ∧ w' = w := by
  have hl := hr.len
  obtain ⟨a, c, rfl, hc, hm, hcell⟩ := hr.form
  have HC : Hid (∀ k, k < zs.length → ∃ b off, a = some ⟨b, off, none⟩ ∧ w.cell? ⟨b, off + k, none⟩ = some (.int .i64 (zs.getD k 0))) := hcell
  clear hcell hr
  go_enter Tryd.func28, Tryd.ntmps28
  go_wp2
  go_loopg [5] zs.length (fun g i wr => ∃ k : Nat, k + g = zs.length ∧ i = .int .i64 k ∧ (zs.take k).contains l = false ∧ wr = w)
  case atStart => exact ⟨0, by omega, rfl, by simp, rfl⟩
  case round =>
    obtain ⟨k, hk, rfl, hall, rfl⟩ := hrel
    have HA : Hid ((zs.take k).contains l = false) := hall
    have HK : Hid (k + gk = zs.length) := hk
    clear hall
    by_cases hlt : k < zs.length
    · obtain ⟨b, off, rfl, hck⟩ := HC.out k hlt
      have HS : Hid ((zs.take (k + 1)).contains l = ((zs.take k).contains l || (l == zs.getD k 0))) := contains_more6 zs k hlt l
      have HE : Hid (l = zs.getD k 0 → zs.contains l = true) := fun e => by rw [List.contains_iff_mem, e]; exact getD_mem' hlt
      clear hk
      generalize zs.getD k 0 = z at *
      cases hf : (z == l)
      · go_wp2
        go_roundg (gk - 1)
        case measure => have := HK.out; omega
        case rel => exact ⟨k + 1, by have := HK.out; omega, by go_num, by rw [HS.out, HA.out, Bool.false_or]; rw [beq_eq_false_iff_ne] at hf ⊢; exact fun e => hf e.symm, rfl⟩
      · go_wp2
        go_ret
        exact ⟨ret_bool (HE.out (beq_iff_eq.1 hf).symm).symm, rfl⟩
    · obtain rfl : k = zs.length := by omega
      have HE : Hid (zs.contains l = false) := by have := HA.out; rw [List.take_length] at this; exact this
      clear hk
      go_wp2
      go_ret
      exact ⟨ret_bool HE.out.symm, rfl⟩

end Go.Proofs.YtmhelbgemehdmaaDoor
