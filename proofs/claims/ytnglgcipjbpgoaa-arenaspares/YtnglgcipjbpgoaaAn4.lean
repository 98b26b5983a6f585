/-
  depotlaw04: plays: Get.
  KEEP: set on app at below new trans refl start ap kept rd rds mono own row cells lt box lo ml ms c0 f0 form max find eq ma some none more map keep
-/
import Derived.Test.YtnglgcipjbpgoaaAn3
set_option linter.unusedSimpArgs false
set_option linter.unusedVariables false
namespace Go.Proofs.Ytnglgcipjbpgoaa
open Go Go.RowKit Go.Maps

/-- both Gets say this -/
def GtS (P : Program) (f : FuncId) (p : Nat) (r : Int) (zs : List Int) (bb : Bool) (W : World) : Prop :=
  Calls P f #[.pointer (some ⟨p, 0, none⟩), .int .i64 r] W fun e w' => ∃ a c, e = .returned (.tuple #[.slice a zs.length c, .bool bb]) ∧ Rd w' (.slice a zs.length c) zs ∧ Below W.heap.size W w'
theorem lits_le {S : List Seg} {r : Int} {s : Seg} (hf : find S r = some s) : s.lits.length ≤ (flat S).length := by
  have := (find_get hf).2.2.2.2.1
  have := (find_get hf).1
  omega
set_option maxRecDepth 100000 in
set_option maxHeartbeats 1600000 in
theorem plays2_any (F : Nat → Prop) (D b m : Nat) (v rv tv mv : Value) (S : List Seg) (L : List Mt) (T : List Te) (r : Int) (q1 q3 q4 : Value) (w : World) (h : Pr4 F w D b v S m rv L tv mv T) (hl : (flat S).length ≤ 1099511627776) (h8 : ∀ x ∈ L, x.2.lits.length * 8 ≤ 140737488351232) :
    Calls Try.prog 7 #[.pointer (some ⟨D, 0, none⟩), .agg #[.int .i64 2, q1, .int .i64 r, q3, q4]] w fun e w' => Pl4 F D b m S L T 0 w e w' := by
  have HP : Hid (∀ W, Below w.heap.size w W → Pr4 F W D b v S m rv L tv mv T) := fun W hW => h.below hW
  have hb0 := below_box w (.cells #[.int .i64 2, q1, .int .i64 r, q3, q4] 34)
  have HB0 : Hid (Below w.heap.size w (w.alloc (.cells #[.int .i64 2, q1, .int .i64 r, q3, q4] 34))) := hb0
  have HC : Hid (∀ W, Below (w.alloc (.cells #[.int .i64 2, q1, .int .i64 r, q3, q4] 34)).heap.size (w.alloc (.cells #[.int .i64 2, q1, .int .i64 r, q3, q4] 34)) W → W.cell? ⟨w.heap.size, 0, none⟩ = some (.int .i64 2) ∧ W.cell? ⟨w.heap.size, 2, none⟩ = some (.int .i64 r) ∧ W.cell? ⟨D, 0, none⟩ = some (.pointer (some ⟨b, 0, none⟩)) ∧ W.cell? ⟨D, 1, none⟩ = some (.pointer (some ⟨m, 0, none⟩))) := fun W hW => by
    have h1 := op_cells w (.int .i64 2) q1 (.int .i64 r) q3 q4 34 hW
    have h2 := (h.below (Below.step hb0 hW)).cells
    exact ⟨h1.1, h1.2.2.1, h2.1, h2.2.1⟩
  obtain ⟨k0, k2, c0, c1⟩ := HC.out _ (Below.refl _ _)
  have HF : Hid (∀ W, Below w.heap.size w W → Pl4 F D b m S L T 0 w (.returned (.bool true)) W) := fun W hW => ⟨F, v, S, rv, L, tv, mv, T, rfl, h.below hW, Ps4.of_below hW, Nat.le_refl _, Nat.le_succ _, Nat.le_succ _⟩
  obtain ⟨zs, bb, hA, hM⟩ : ∃ zs bb, (∀ W, Below w.heap.size w W → GtS Try.prog 19 b r zs bb W) ∧ (∀ W, Below w.heap.size w W → GtS Try.prog 23 m r zs bb W) := by
    cases hf : find S r with
    | none =>
      refine ⟨[], false, fun W hW => (arGet_none b v S r W (HP.out W hW).ar (by omega) hf).mono fun e w' ⟨he, hw⟩ => ⟨none, 0, he, by rw [hw]; exact Rd.nil _, by rw [hw]; exact Below.refl _ _⟩, fun W hW => (mGet_any 0 m rv L S r W (HP.out W hW).mz h8).mono fun e w' hh => ?_⟩
      rcases hh with ⟨_, he, hw⟩ | ⟨s, hs, _⟩
      · exact ⟨none, 0, he, by rw [hw]; exact Rd.nil _, by rw [hw]; exact Below.refl _ _⟩
      · rw [hf] at hs; cases hs
    | some s =>
      have hle := lits_le hf
      refine ⟨s.lits, true, fun W hW => (arGet_some b v S r s W (HP.out W hW).ar (by omega) hf).mono fun e w' ⟨u, he, ho, hb⟩ => ?_, fun W hW => (mGet_any 0 m rv L S r W (HP.out W hW).mz h8).mono fun e w' hh => ?_⟩
      · obtain ⟨a, c, eu⟩ := own_form ho
        subst eu
        exact ⟨a, c, he, ho.rd (by omega), hb⟩
      · rcases hh with ⟨hn, _⟩ | ⟨s', hs, u, he, ho, hb⟩
        · rw [hf] at hn; cases hn
        · rw [hf] at hs
          injection hs with hs
          subst hs
          obtain ⟨a, c, eu⟩ := own_form ho
          subst eu
          exact ⟨a, c, he, ho.rd (by omega), hb⟩
  have HA : Hid (∀ W, Below w.heap.size w W → GtS Try.prog 19 b r zs bb W) := hA
  have HM : Hid (∀ W, Below w.heap.size w W → GtS Try.prog 23 m r zs bb W) := hM
  have hbb : (bb == bb) = true := beq_self_eq_true _
  clear h hb0 hA hM
  go_enter Try.func7, Try.ntmps7
  go_upto_region 7 with fail
  generalize w.alloc (.cells #[.int .i64 2, q1, .int .i64 r, q3, q4] 34) = W0 at *
  have HS1 : Hid (∀ W', Below W0.heap.size W0 W' → Below W0.heap.size W0 W' ∧ W'.cell? ⟨w.heap.size, 2, none⟩ = some (.int .i64 r) ∧ W'.cell? ⟨D, 0, none⟩ = some (.pointer (some ⟨b, 0, none⟩))) := fun W' hW => ⟨hW, (HC.out _ hW).2.1, (HC.out _ hW).2.2.1⟩
  have HW1 : Hid (Below W0.heap.size W0 W0.drew) := (Below.refl _ _).drew
  have HA1 : Hid (GtS Try.prog 19 b r zs bb W0.drew) := HA.out _ (Below.step HB0.out HW1.out)
  go_region_held (fun W' => Below W0.heap.size W0 W' ∧ W'.cell? ⟨w.heap.size, 2, none⟩ = some (.int .i64 r) ∧ W'.cell? ⟨D, 0, none⟩ = some (.pointer (some ⟨b, 0, none⟩))) (first | with_reducible exact HS1.out _ HW1.out | with_reducible exact HS1.out _ G1.out.1) (first
    | (go_at_call 19; (refine Calls.mono HA1.out ?_); rintro e w1 ⟨a1, e1, rfl, rd1, be1⟩; have G1 : Hid (Below W0.heap.size W0 w1 ∧ Rd w1 (.slice a1 zs.length e1) zs) := ⟨Below.step HW1.out be1, rd1⟩; clear rd1 be1))
  clear k0 k2 c0 c1
  go_upto_region 8 with fail
  have HS2 : Hid (∀ W', Below w1.heap.size w1 W' → Below w1.heap.size w1 W' ∧ W'.cell? ⟨w.heap.size, 2, none⟩ = some (.int .i64 r) ∧ W'.cell? ⟨D, 1, none⟩ = some (.pointer (some ⟨m, 0, none⟩))) := fun W' hW => ⟨hW, (HC.out _ (Below.step G1.out.1 hW)).2.1, (HC.out _ (Below.step G1.out.1 hW)).2.2.2⟩
  have HW2 : Hid (Below w1.heap.size w1 w1.drew) := (Below.refl _ _).drew
  have HM1 : Hid (GtS Try.prog 23 m r zs bb w1.drew) := HM.out _ (Below.step (Below.step HB0.out G1.out.1) HW2.out)
  obtain ⟨k0, k2, c0, c1⟩ := HC.out _ G1.out.1
  go_region_held (fun W' => Below w1.heap.size w1 W' ∧ W'.cell? ⟨w.heap.size, 2, none⟩ = some (.int .i64 r) ∧ W'.cell? ⟨D, 1, none⟩ = some (.pointer (some ⟨m, 0, none⟩))) (first | with_reducible exact HS2.out _ HW2.out | with_reducible exact HS2.out _ G2.out.1) (first
    | (go_at_call 23; (refine Calls.mono HM1.out ?_); rintro e w2 ⟨a2, e2, rfl, rd2, be2⟩; have G2 : Hid (Below w1.heap.size w1 w2 ∧ Rd w2 (.slice a2 zs.length e2) zs) := ⟨Below.step HW2.out be2, rd2⟩; clear rd2 be2))
  clear k0 k2 c0 c1
  have HEq : Hid (Calls Try.prog 12 #[.slice a1 zs.length e1, .slice a2 zs.length e2] w2 fun e w' => e = .returned (.bool true) ∧ Below w2.heap.size w2 w') := by
    have h5 := requal4_any _ _ zs zs w2 (G1.out.2.below G2.out.1) G2.out.2
    rw [show (zs == zs) = true from beq_self_eq_true zs] at h5
    exact h5
  go_wp2_with fail
  refine HEq.out.mono ?_
  rintro e w3 ⟨rfl, be3⟩
  have H3 : Hid (Below w.heap.size w w3) := Below.step (Below.step (Below.step HB0.out G1.out.1) G2.out.1) be3
  clear be3
  go_wp2
  go_ret
  exact HF.out _ H3.out
end Go.Proofs.Ytnglgcipjbpgoaa
