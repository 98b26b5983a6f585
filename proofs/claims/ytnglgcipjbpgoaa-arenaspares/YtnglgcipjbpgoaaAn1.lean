/-
  depotlaw04: plays: Learnt.
  KEEP: set on app at below new trans refl start ap kept rd rds mono own row cells lt box lo ml ms c0 f0 form max find eq ma some none more map keep
-/
import Derived.Test.YtnglgcipjbpgoaaAmZ
import Derived.Deep.RegionHeld
set_option linter.unusedSimpArgs false
set_option linter.unusedVariables false
namespace Go.Proofs.Ytnglgcipjbpgoaa
open Go Go.RowKit Go.Maps

set_option maxRecDepth 100000 in
set_option maxHeartbeats 1600000 in
theorem plays3_any (F : Nat → Prop) (D b m : Nat) (v rv tv mv : Value) (S : List Seg) (L : List Mt) (T : List Te) (r : Int) (q1 q3 q4 : Value) (w : World) (h : Pr4 F w D b v S m rv L tv mv T) (hl : (flat S).length ≤ 1099511627776) :
    Calls Try.prog 7 #[.pointer (some ⟨D, 0, none⟩), .agg #[.int .i64 3, q1, .int .i64 r, q3, q4]] w fun e w' => Pl4 F D b m S L T 0 w e w' := by
  have HP : Hid (∀ W, Below w.heap.size w W → Pr4 F W D b v S m rv L tv mv T) := fun W hW => h.below hW
  have hb0 := below_box w (.cells #[.int .i64 3, q1, .int .i64 r, q3, q4] 34)
  have HB0 : Hid (Below w.heap.size w (w.alloc (.cells #[.int .i64 3, q1, .int .i64 r, q3, q4] 34))) := hb0
  have HC : Hid (∀ W, Below (w.alloc (.cells #[.int .i64 3, q1, .int .i64 r, q3, q4] 34)).heap.size (w.alloc (.cells #[.int .i64 3, q1, .int .i64 r, q3, q4] 34)) W → W.cell? ⟨w.heap.size, 0, none⟩ = some (.int .i64 3) ∧ W.cell? ⟨w.heap.size, 2, none⟩ = some (.int .i64 r) ∧ W.cell? ⟨D, 0, none⟩ = some (.pointer (some ⟨b, 0, none⟩)) ∧ W.cell? ⟨D, 1, none⟩ = some (.pointer (some ⟨m, 0, none⟩))) := fun W hW => by
    have h1 := op_cells w (.int .i64 3) q1 (.int .i64 r) q3 q4 34 hW
    have h2 := (h.below (Below.step hb0 hW)).cells
    exact ⟨h1.1, h1.2.2.1, h2.1, h2.2.1⟩
  obtain ⟨k0, k2, c0, c1⟩ := HC.out _ (Below.refl _ _)
  have HF : Hid (∀ W, Below w.heap.size w W → Pl4 F D b m S L T 0 w (.returned (.bool true)) W) := fun W hW => ⟨F, v, S, rv, L, tv, mv, T, rfl, h.below hW, Ps4.of_below hW, Nat.le_refl _, Nat.le_succ _, Nat.le_succ _⟩
  obtain ⟨x, hx⟩ : ∃ x, (match find S r with | some s => s.learnt | none => false) = x := ⟨_, rfl⟩
  have HA : Hid (∀ W, Below w.heap.size w W → Calls Try.prog 24 #[.pointer (some ⟨b, 0, none⟩), .int .i64 r] W fun e w' => e = .returned (.bool x) ∧ w' = W) := fun W hW => by
    have h5 := arLearnt_any b v S r W (HP.out W hW).ar (by omega)
    exact h5.mono fun e w' ⟨he, hw⟩ => ⟨he.trans (congrArg (fun z => Ending.returned (.bool z)) hx), hw⟩
  have HM : Hid (∀ W, Below w.heap.size w W → Calls Try.prog 25 #[.pointer (some ⟨m, 0, none⟩), .int .i64 r] W fun e w' => e = .returned (.bool x) ∧ w' = W) := fun W hW => by
    have h5 := mLearnt_any 0 m rv L S r W (HP.out W hW).mz
    exact h5.mono fun e w' ⟨he, hw⟩ => ⟨he.trans (congrArg (fun z => Ending.returned (.bool z)) hx), hw⟩
  have hxx : (x == x) = true := beq_self_eq_true _
  clear h hb0 hx
  go_enter Try.func7, Try.ntmps7
  go_upto_region 11 with fail
  generalize w.alloc (.cells #[.int .i64 3, q1, .int .i64 r, q3, q4] 34) = W0 at *
  go_quiet ((go_at_call 24; exact Calls.quiet_of_same (HA.out _ (Below.step HB0.out (below_drewN _ _)))))
  have HB1 : Hid (Below W0.heap.size W0 (W0.drewN nq)) := below_drewN _ _
  clear k0 k2 c0 c1
  go_upto_region 12 with fail
  generalize W0.drewN nq = W1 at *
  obtain ⟨k0, k2, c0, c1⟩ := HC.out _ HB1.out
  go_quiet ((go_at_call 25; exact Calls.quiet_of_same (HM.out _ (Below.step (Below.step HB0.out HB1.out) (below_drewN _ _)))))
  go_wp2
  go_ret
  exact HF.out _ (Below.step (Below.step HB0.out HB1.out) (below_drewN _ _))
end Go.Proofs.Ytnglgcipjbpgoaa
