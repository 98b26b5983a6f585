/-
  depotlaw04: plays, kind by kind: Count and Words; no kind.
  KEEP: set on app at below new trans refl start ap kept rd rds mono own row cells lt box lo ml ms c0 f0 form max find eq ma some none more map keep
-/
import Derived.Test.YtnglgcipjbpgoaaAmY
set_option linter.unusedSimpArgs false
set_option linter.unusedVariables false
namespace Go.Proofs.Ytnglgcipjbpgoaa
open Go Go.RowKit Go.Maps

/-- what a step leaves: the pair, over blocks of its own and new ones; all else as it was -/
structure Ps4 (F F' : Nat → Prop) (w w' : World) : Prop where
  os : w'.os = w.os
  tape : w'.tape = w.tape
  output : w'.output = w.output
  size : w.heap.size ≤ w'.heap.size
  block : ∀ k, k < w.heap.size → ¬ F k → w'.heap[k]? = w.heap[k]?
  sub : ∀ k, F' k → F k ∨ w.heap.size ≤ k
theorem Ps4.of_below {F : Nat → Prop} {w w' : World} (h : Below w.heap.size w w') : Ps4 F F w w' := ⟨h.os, h.tape, h.output, h.size, fun k hk _ => h.block k hk, fun k hk => .inl hk⟩
def Pl4 (F : Nat → Prop) (D b m : Nat) (S : List Seg) (L : List Mt) (T : List Te) (n : Nat) (w : World) (e : Ending) (w' : World) : Prop :=
  ∃ F' v' S' rv' L' tv' mv' T', e = .returned (.bool true) ∧ Pr4 F' w' D b v' S' m rv' L' tv' mv' T' ∧ Ps4 F F' w w' ∧ (flat S').length ≤ (flat S).length + n ∧ L'.length ≤ L.length + 1 ∧ T'.length ≤ T.length + 1
theorem op_cells (w : World) (a b c d e : Value) (T : TypeId) {W : World} (hW : Below (w.alloc (.cells #[a, b, c, d, e] T)).heap.size (w.alloc (.cells #[a, b, c, d, e] T)) W) : W.cell? ⟨w.heap.size, 0, none⟩ = some a ∧ W.cell? ⟨w.heap.size, 1, none⟩ = some b ∧ W.cell? ⟨w.heap.size, 2, none⟩ = some c ∧ W.cell? ⟨w.heap.size, 3, none⟩ = some d ∧ W.cell? ⟨w.heap.size, 4, none⟩ = some e := by
  have hh : W.heap[w.heap.size]? = some (.cells #[a, b, c, d, e] T (0, 0)) := by
    have e1 := World.alloc_heap_new w (.cells #[a, b, c, d, e] T (0, 0))
    exact (hW.block _ (Array.getElem?_eq_some_iff.1 e1).1).trans e1
  exact ⟨by simp [World.cell?, hh], by simp [World.cell?, hh], by simp [World.cell?, hh], by simp [World.cell?, hh], by simp [World.cell?, hh]⟩
set_option maxRecDepth 100000 in
set_option maxHeartbeats 1600000 in
theorem plays5_any (F : Nat → Prop) (D b m : Nat) (v rv tv mv : Value) (S : List Seg) (L : List Mt) (T : List Te) (q1 q2 q3 q4 : Value) (w : World) (h : Pr4 F w D b v S m rv L tv mv T) (hl : (flat S).length ≤ 1099511627776) :
    Calls Try.prog 7 #[.pointer (some ⟨D, 0, none⟩), .agg #[.int .i64 5, q1, q2, q3, q4]] w fun e w' => Pl4 F D b m S L T 0 w e w' := by
  have HP : Hid (∀ W, Below w.heap.size w W → Pr4 F W D b v S m rv L tv mv T) := fun W hW => h.below hW
  have hb0 := below_box w (.cells #[.int .i64 5, q1, q2, q3, q4] 34)
  have HB0 : Hid (Below w.heap.size w (w.alloc (.cells #[.int .i64 5, q1, q2, q3, q4] 34))) := hb0
  obtain ⟨k0, -, -, -, -⟩ := op_cells w (.int .i64 5) q1 q2 q3 q4 34 (Below.refl _ _)
  obtain ⟨c0, c1, -, -, -⟩ := (h.below hb0).cells
  have hmw : mwd (L.map Prod.snd) = (flat S).length := by rw [h.mz.eq, mwd_flat]
  have hmc : mct (L.map Prod.snd) = (lv 0 S).length := by rw [h.mz.eq, mct_lv]
  have HF : Hid (∀ W, Below w.heap.size w W → Pl4 F D b m S L T 0 w (.returned (.bool true)) W) := fun W hW => ⟨F, v, S, rv, L, tv, mv, T, rfl, h.below hW, Ps4.of_below hW, Nat.le_refl _, Nat.le_succ _, Nat.le_succ _⟩
  clear h hb0
  go_enter Try.func7, Try.ntmps7
  go_wp2_with fail
  generalize w.alloc (.cells #[.int .i64 5, q1, q2, q3, q4] 34) = W0 at *
  refine (arCount_any b v S W0 (HP.out _ HB0.out).ar).mono ?_
  rintro e w1 ⟨rfl, ew⟩
  have ew := ew.symm
  subst ew
  go_wp2_with fail
  refine (arWords_any b v S W0 (HP.out _ HB0.out).ar (by omega)).mono ?_
  rintro e w1 ⟨rfl, ew⟩
  have ew := ew.symm
  subst ew
  go_wp2_with fail
  refine (mCount_any 0 m rv L W0 (HP.out _ HB0.out).mz.ma).mono ?_
  rintro e w1 ⟨rfl, ew⟩
  have ew := ew.symm
  subst ew
  rw [hmc]
  have hb1 : (((lv 0 S).length : Int) == ((lv 0 S).length : Int)) = true := beq_self_eq_true _
  have hb2 : (((flat S).length : Int) == ((flat S).length : Int)) = true := beq_self_eq_true _
  go_wp2_with fail
  refine (mWords_any 0 m rv L W0 (HP.out _ HB0.out).mz.ma (by rw [hmw]; omega)).mono ?_
  rw [hmw]
  rintro e w1 ⟨rfl, ew⟩
  have ew := ew.symm
  subst ew
  go_wp2
  go_ret
  exact HF.out _ HB0.out
set_option maxRecDepth 100000 in
set_option maxHeartbeats 1600000 in
theorem plays0_any (F : Nat → Prop) (D b m : Nat) (v rv tv mv : Value) (S : List Seg) (L : List Mt) (T : List Te) (kd : Int) (q1 q2 q3 q4 : Value) (w : World) (h : Pr4 F w D b v S m rv L tv mv T) (hk : ¬ (1 ≤ kd ∧ kd ≤ 7)) :
    Calls Try.prog 7 #[.pointer (some ⟨D, 0, none⟩), .agg #[.int .i64 kd, q1, q2, q3, q4]] w fun e w' => Pl4 F D b m S L T 0 w e w' := by
  have hb0 := below_box w (.cells #[.int .i64 kd, q1, q2, q3, q4] 34)
  obtain ⟨k0, -, -, -, -⟩ := op_cells w (.int .i64 kd) q1 q2 q3 q4 34 (Below.refl _ _)
  have HF : Hid (Pl4 F D b m S L T 0 w (.returned (.bool true)) (w.alloc (.cells #[.int .i64 kd, q1, q2, q3, q4] 34))) := ⟨F, v, S, rv, L, tv, mv, T, rfl, h.below hb0, Ps4.of_below hb0, Nat.le_refl _, Nat.le_succ _, Nat.le_succ _⟩
  have e1 : (kd == 1) = false := beq_eq_false_iff_ne.2 (by omega)
  have e2 : (kd == 2) = false := beq_eq_false_iff_ne.2 (by omega)
  have e3 : (kd == 3) = false := beq_eq_false_iff_ne.2 (by omega)
  have e4 : (kd == 4) = false := beq_eq_false_iff_ne.2 (by omega)
  have e5 : (kd == 5) = false := beq_eq_false_iff_ne.2 (by omega)
  have e6 : (kd == 6) = false := beq_eq_false_iff_ne.2 (by omega)
  have e7 : (kd == 7) = false := beq_eq_false_iff_ne.2 (by omega)
  clear h hb0 hk
  go_enter Try.func7, Try.ntmps7
  go_wp2
  go_ret
  exact HF.out
end Go.Proofs.Ytnglgcipjbpgoaa
