/-
  SameClauses and SameFormula of what is the same, walked.
-/
import Derived.Test.YtlkbbbbclmffjaaGreatDoorJForms
import Derived.Deep.RegionWith
set_option linter.unusedSimpArgs false
set_option linter.unusedVariables false
namespace Go.Proofs.YtlkbbbbclmffjaaGreatDoor
open Go.RowKit

set_option maxHeartbeats 2000000 in
theorem sameClauses_self (r1 r2 : Value) (css : List (List Int)) (w : World) (h1 : Rds w r1 css) (h2 : Rds w r2 css) :
    Calls Tryz.prog 47 #[r1, r2] w fun e w' => e = .returned (.bool true) ∧ Below w.heap.size w w' := by
  have hl := h1.len
  obtain ⟨a1, c1, rfl, hc1, hm1, _⟩ := h1.form
  obtain ⟨a2, c2, rfl, hc2, hm2, _⟩ := h2.form
  have hrow : Hid (∀ W, Below w.heap.size w W → ∀ k, k < css.length → ∃ b1 o1 b2 o2 x1 x2, a1 = some ⟨b1, o1, none⟩ ∧ W.cell? ⟨b1, o1 + k, none⟩ = some x1 ∧ a2 = some ⟨b2, o2, none⟩ ∧ W.cell? ⟨b2, o2 + k, none⟩ = some x2 ∧ Rd W x1 (css.getD k []) ∧ Rd W x2 (css.getD k [])) := fun W hW k hk => by
    obtain ⟨p1, q1, e1, _, _, g1⟩ := (h1.below hW).form
    obtain ⟨p2, q2, e2, _, _, g2⟩ := (h2.below hW).form
    cases e1; cases e2
    obtain ⟨b1, o1, x1, rfl, i1, r1⟩ := g1 k hk
    obtain ⟨b2, o2, x2, rfl, i2, r2⟩ := g2 k hk
    exact ⟨b1, o1, b2, o2, x1, x2, rfl, i1, rfl, i2, r1, r2⟩
  clear h1 h2
  go_enter Tryz.func47, Tryz.ntmps47
  go_wp2
  go_loopg [5] css.length (fun g i wr => ∃ k : Nat, k + g = css.length ∧ i = .int .i64 k ∧ Below w.heap.size w wr)
  case atStart => exact ⟨0, by omega, rfl, Below.refl _ _⟩
  case round =>
  obtain ⟨k, hk, rfl, bel⟩ := hrel
  have HK' : Hid (k + gk = css.length) := hk
  by_cases hlt : k < css.length
  · obtain ⟨g1, o1, g2, o2, x1, x2, rfl, p3, rfl, p6, rd1, rd2⟩ := hrow.out wr bel k hlt
    have R1 : Hid (Rd wr x1 (css.getD k [])) := rd1
    have R2 : Hid (Rd wr x2 (css.getD k [])) := rd2
    obtain ⟨_, ax1, cx1, rfl, -⟩ := id rd1
    obtain ⟨_, ax2, cx2, rfl, -⟩ := id rd2
    have BE : Hid (Below w.heap.size w wr) := bel
    clear rd1 rd2 bel hk
    generalize css.getD k [] = T at *
    go_wp2
    go_region_with (go_at_call 64; refine (sameSelf_any _ _ T _ (R1.out.below (Below.refl _ _).drew) (R2.out.below (Below.refl _ _).drew)).mono ?_; rintro e w9 ⟨rfl, bel9⟩)
    all_goals
      go_wp2
      go_roundg (gk - 1)
      case measure => have := HK'.out; omega
      case rel => exact ⟨k + 1, by have := HK'.out; omega, by go_num, BE.out.trans ((Below.step (Below.refl _ _).drew bel9).mono BE.out.size)⟩
  have e : css.length = k := by omega
  clear hk hlt HK'
  have hkk : (k : Int) = (css.length : Int) := by omega
  have hdd : decide ((css.length : Int) < (css.length : Int)) = false := by simp
  obtain rfl := e
  go_wp2
  go_ret
  exact ⟨rfl, bel⟩

set_option maxHeartbeats 2000000 in
theorem sameFormula_self (n : Int) (r1 r2 : Value) (css : List (List Int)) (w : World) (h1 : Rds w r1 css) (h2 : Rds w r2 css) :
    Calls Tryz.prog 29 #[.agg #[.int .i64 n, r1], .agg #[.int .i64 n, r2]] w fun e w' => e = .returned (.bool true) ∧ Below w.heap.size w w' := by
  have A0 : Bx w n r1 css ((w.alloc (.cells #[.int .i64 n, r1] 24)).alloc (.cells #[.int .i64 n, r2] 24)) := (Bx.new h1 _).on (below_box _ _)
  have A1 : Bx (w.alloc (.cells #[.int .i64 n, r1] 24)) n r2 css ((w.alloc (.cells #[.int .i64 n, r1] 24)).alloc (.cells #[.int .i64 n, r2] 24)) := Bx.new (h2.below (below_box _ _)) _
  have c0 := A0.c0
  have c1 := A0.c1
  have d0 := A1.c0
  have d1 := A1.c1
  rw [World.size_alloc] at d0 d1
  have HA : Hid (Below w.heap.size w ((w.alloc (.cells #[.int .i64 n, r1] 24)).alloc (.cells #[.int .i64 n, r2] 24))) := A0.bel
  have H1 : Hid (Rds ((w.alloc (.cells #[.int .i64 n, r1] 24)).alloc (.cells #[.int .i64 n, r2] 24)) r1 css) := A0.rd
  have H2 : Hid (Rds ((w.alloc (.cells #[.int .i64 n, r1] 24)).alloc (.cells #[.int .i64 n, r2] 24)) r2 css) := A1.rd
  clear A0 A1 h1 h2
  go_enter Tryz.func29, Tryz.ntmps29
  go_wp2_with fail
  refine (sameClauses_self r1 r2 css _ H1.out H2.out).mono ?_
  rintro e w2 ⟨rfl, bel2⟩
  have HB : Hid (Below w.heap.size w w2) := Below.step HA.out bel2
  clear HA H1 H2 bel2
  go_wp2
  go_ret
  exact ⟨rfl, HB.out⟩

end Go.Proofs.YtlkbbbbclmffjaaGreatDoor
