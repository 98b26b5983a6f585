/-
  The law's same and alike of relations, where they are the same: they only read.
  KEEP: off c0 c1 c2 c3 c4 s0 s1 s2 s3 s4 newS rds lt f t q x walk lisF LsAns Ap blw put22 OwnR OwnRs len below nil form rd mono on app start at new trans refl kept own row out grown rdz set one more lt size cell some none letL tail next step go add put del get look no yes e c f b k n m box c0 c1 c2 s0 s1 s2 s3 newS drewN x t q done keep lk22 st22 below22 at22 RdR RdRs
-/
import Derived.Test.YtmfcaoacklbkoaaDoorRlI
import Derived.Deep.QuietTactic
import Derived.BigQuiet
import Derived.Deep.CutRange
set_option linter.unusedSimpArgs false
set_option linter.unusedVariables false
namespace Go.Proofs.YtmfcaoacklbkoaaDoor
open Go Go.RowKit

theorem blw_dn22 (W : World) (k : Nat) : Below W.heap.size W (W.drewN k) := ⟨rfl, rfl, rfl, Nat.le_refl _, fun _ _ => rfl⟩
theorem RdR.dn22 {W : World} {v : Value} {rs : List Rl} (h : RdR W v rs) (k : Nat) : RdR (W.drewN k) v rs := h.below22 (blw_dn22 W k)
theorem RdRs.dn22 {W : World} {v : Value} {l : List (List Rl)} (h : RdRs W v l) (k : Nat) : RdRs (W.drewN k) v l := h.below22 (blw_dn22 W k)
set_option maxHeartbeats 3200000 in
set_option maxRecDepth 20000 in
theorem same22 (u v : Value) (rs : List Rl) (w : World) (hu : RdR w u rs) (hv : RdR w v rs) :
    Calls Tryd.prog 15 #[u, v] w fun e w' => e = .returned (.bool true) ∧ ∃ m, w' = w.drewN m := by
  obtain ⟨a, c, rfl, hc, hm, hcu⟩ := hu.at22
  obtain ⟨b, d, rfl, hd, hm2, hcv⟩ := hv.at22
  have h40 := hu.1
  have HU : Hid (∀ j, j < rs.length → ∃ b off, a = some ⟨b, off, none⟩ ∧ w.cell? ⟨b, off + j * 3, none⟩ = some (.string (rs.getD j noRl).1) ∧ w.cell? ⟨b, off + j * 3 + 1, none⟩ = some (.int .i64 (rs.getD j noRl).2.1) ∧ w.cell? ⟨b, off + j * 3 + 2, none⟩ = some (.string (rs.getD j noRl).2.2)) := hcu
  have HV : Hid (∀ j, j < rs.length → ∃ g off, b = some ⟨g, off, none⟩ ∧ w.cell? ⟨g, off + j * 3, none⟩ = some (.string (rs.getD j noRl).1) ∧ w.cell? ⟨g, off + j * 3 + 1, none⟩ = some (.int .i64 (rs.getD j noRl).2.1) ∧ w.cell? ⟨g, off + j * 3 + 2, none⟩ = some (.string (rs.getD j noRl).2.2)) := hcv
  clear hu hv hcu hcv
  generalize rs.length = n at *
  go_enter Tryd.func15, Tryd.ntmps15
  go_wp2
  go_loopg [5] n (fun g i wr => ∃ k m : Nat, k + g = n ∧ i = .int .i64 k ∧ Hid (wr = w.drewN m))
  case atStart => exact ⟨0, 0, by omega, rfl, rfl⟩
  case round =>
    obtain ⟨k, m, hk, rfl, HW⟩ := hrel
    have HG : Hid (k + gk = n) := hk
    by_cases hlt : k < n
    · obtain ⟨ub, uo, rfl, x0, x1, x2⟩ := HU.out k hlt
      obtain ⟨vb, vo, rfl, y0, y1, y2⟩ := HV.out k hlt
      have X0 : wr.cell? ⟨ub, uo + k * 3, none⟩ = some (.string (rs.getD k noRl).1) := by rw [HW.out]; exact x0
      have X1 : wr.cell? ⟨ub, uo + k * 3 + 1, none⟩ = some (.int .i64 (rs.getD k noRl).2.1) := by rw [HW.out]; exact x1
      have X2 : wr.cell? ⟨ub, uo + k * 3 + 2, none⟩ = some (.string (rs.getD k noRl).2.2) := by rw [HW.out]; exact x2
      have Y0 : wr.cell? ⟨vb, vo + k * 3, none⟩ = some (.string (rs.getD k noRl).1) := by rw [HW.out]; exact y0
      have Y1 : wr.cell? ⟨vb, vo + k * 3 + 1, none⟩ = some (.int .i64 (rs.getD k noRl).2.1) := by rw [HW.out]; exact y1
      have Y2 : wr.cell? ⟨vb, vo + k * 3 + 2, none⟩ = some (.string (rs.getD k noRl).2.2) := by rw [HW.out]; exact y2
      clear x0 x1 x2 y0 y1 y2 hk
      generalize (rs.getD k noRl).1 = N at *
      generalize (rs.getD k noRl).2.1 = o at *
      generalize (rs.getD k noRl).2.2 = V at *
      go_upto_region 6 with fail
      go_quiet (fail)
      have HW2 : Hid (wr.drewN nq = w.drewN (m + nq)) := by show _ = _; rw [HW.out, World.drewN_drewN]
      clear X0 X1 X2 Y0 Y1 Y2
      generalize wr.drewN nq = wq at *
      go_wp2
      go_roundg (gk - 1)
      case measure => have := HG.out; omega
      case rel => exact ⟨k + 1, m + nq, by have := HG.out; omega, by go_num, HW2.out⟩
    · clear hk
      go_wp2
      go_ret
      exact ⟨rfl, m, HW.out⟩
set_option maxHeartbeats 3200000 in
set_option maxRecDepth 20000 in
theorem alike22 (u v : Value) (l : List (List Rl)) (w : World) (hu : RdRs w u l) (hv : RdRs w v l) :
    Calls Tryd.prog 16 #[u, v] w fun e w' => e = .returned (.bool true) ∧ ∃ m, w' = w.drewN m := by
  obtain ⟨a, c, rfl, hc, hm, hcu⟩ := hu.at22
  obtain ⟨b, d, rfl, hd, hm2, hcv⟩ := hv.at22
  have h24 := hu.1
  have HU : Hid (∀ j, j < l.length → ∃ b off u, a = some ⟨b, off, none⟩ ∧ w.cell? ⟨b, off + j, none⟩ = some u ∧ RdR w u (l.getD j [])) := hcu
  have HV : Hid (∀ j, j < l.length → ∃ g off u, b = some ⟨g, off, none⟩ ∧ w.cell? ⟨g, off + j, none⟩ = some u ∧ RdR w u (l.getD j [])) := hcv
  clear hu hv hcu hcv
  generalize l.length = n at *
  go_enter Tryd.func16, Tryd.ntmps16
  go_wp2
  go_loopg [5] n (fun g i wr => ∃ k m : Nat, k + g = n ∧ i = .int .i64 k ∧ Hid (wr = w.drewN m))
  case atStart => exact ⟨0, 0, by omega, rfl, rfl⟩
  case round =>
    obtain ⟨k, m, hk, rfl, HW⟩ := hrel
    have HG : Hid (k + gk = n) := hk
    by_cases hlt : k < n
    · obtain ⟨ub, uo, cu, rfl, x0, x1⟩ := HU.out k hlt
      obtain ⟨vb, vo, cv, rfl, y0, y1⟩ := HV.out k hlt
      generalize l.getD k [] = rs at *
      have X0 : wr.cell? ⟨ub, uo + k, none⟩ = some cu := by rw [HW.out]; exact x0
      have Y0 : wr.cell? ⟨vb, vo + k, none⟩ = some cv := by rw [HW.out]; exact y0
      have HSm : Hid (∀ j, Calls Tryd.prog 15 #[cu, cv] (wr.drewN j) fun e w' => e = .returned (.bool true) ∧ ∃ m, w' = (wr.drewN j).drewN m) := fun j => same22 cu cv rs _ (by rw [HW.out]; exact (x1.dn22 m).dn22 j) (by rw [HW.out]; exact (y1.dn22 m).dn22 j)
      obtain ⟨a1, c1, rfl, -, -, -⟩ := x1.at22
      obtain ⟨a2, c2, rfl, -, -, -⟩ := y1.at22
      clear x0 x1 y0 y1 hk
      generalize rs.length = nr at *
      go_upto_region 6 with fail
      go_quiet ((go_at_call 15; exact Calls.quiet_of (HSm.out _)))
      have HW2 : Hid (wr.drewN nq = w.drewN (m + nq)) := by show _ = _; rw [HW.out, World.drewN_drewN]
      clear X0 Y0 HSm
      generalize wr.drewN nq = wq at *
      go_wp2
      go_roundg (gk - 1)
      case measure => have := HG.out; omega
      case rel => exact ⟨k + 1, m + nq, by have := HG.out; omega, by go_num, HW2.out⟩
    · clear hk
      go_wp2
      go_ret
      exact ⟨rfl, m, HW.out⟩

end Go.Proofs.YtmfcaoacklbkoaaDoor
