/-
  depotlaw04: plays: Drop.
  KEEP: set on app at below new trans refl start ap kept rd rds mono own row cells lt box lo ml ms c0 f0 form max find eq ma some none more map keep ps arStep docStep toldStep movedStep renote tys
-/
import Derived.Test.YtnglgcipjbpgoaaAn5
set_option linter.unusedSimpArgs false
set_option linter.unusedVariables false
namespace Go.Proofs.Ytnglgcipjbpgoaa
open Go Go.RowKit Go.Maps

/-- what a step leaves of a block that isn't the pair's -/
theorem Ps4.obj {F F' : Nat → Prop} {W W' : World} {o : Nat} {x : Obj} (p : Ps4 F F' W W') (ho : W.heap[o]? = some x) (hn : ¬ F o) : W'.heap[o]? = some x ∧ ¬ F' o := by
  have hl := (Array.getElem?_eq_some_iff.1 ho).1
  exact ⟨(p.block o hl hn).trans ho, fun q => (p.sub o q).elim hn (fun e => by omega)⟩
/-- both Drops say this -/
def DrA (b : Nat) (v : Value) (r : Int) (c : Int) (S' : List Seg) (W : World) : Prop :=
  Calls Try.prog 26 #[.pointer (some ⟨b, 0, none⟩), .int .i64 r] W fun e w' => e = .returned (.int .i64 c) ∧ Ar w' b v S' ∧ Mv W b v w' v
def DrM (m : Nat) (rv : Value) (L : List Mt) (r : Int) (c : Int) (S' : List Seg) (W : World) : Prop :=
  Calls Try.prog 27 #[.pointer (some ⟨m, 0, none⟩), .int .i64 r] W fun e w' => ∃ L', e = .returned (.int .i64 c) ∧ Mz4 0 w' m rv L' S' ∧ Mv W m rv w' rv ∧ Vs4 W L L' ∧ L'.length = L.length
theorem vs_refl (w : World) (L : List Mt) : Vs4 w L L := fun x hx => .inl ⟨x, hx, rfl⟩
theorem drop_len {S : List Seg} {r : Int} {s : Seg} (h : find S r = some s) : (flat (dropAt S r)).length = (flat S).length := by
  rw [drop_flat h, List.length_set]
theorem opObj {w : World} {a b c d e : Value} : (w.alloc (.cells #[a, b, c, d, e] 34)).heap[w.heap.size]? = some (.cells #[a, b, c, d, e] 34 (0, 0)) := World.alloc_heap_new w _
theorem op_cell {W : World} {o : Nat} {a b c d e : Value} (h : W.heap[o]? = some (.cells #[a, b, c, d, e] 34 (0, 0))) : W.cell? ⟨o, 0, none⟩ = some a ∧ W.cell? ⟨o, 1, none⟩ = some b ∧ W.cell? ⟨o, 2, none⟩ = some c ∧ W.cell? ⟨o, 3, none⟩ = some d ∧ W.cell? ⟨o, 4, none⟩ = some e :=
  ⟨by simp [World.cell?, h], by simp [World.cell?, h], by simp [World.cell?, h], by simp [World.cell?, h], by simp [World.cell?, h]⟩
set_option maxRecDepth 100000 in
set_option maxHeartbeats 1600000 in
theorem plays4_any (F : Nat → Prop) (D b m : Nat) (v rv tv mv : Value) (S : List Seg) (L : List Mt) (T : List Te) (r : Int) (q1 q3 q4 : Value) (w : World) (h : Pr4 F w D b v S m rv L tv mv T) (hl : (flat S).length ≤ 1099511627776) :
    Calls Try.prog 7 #[.pointer (some ⟨D, 0, none⟩), .agg #[.int .i64 4, q1, .int .i64 r, q3, q4]] w fun e w' => Pl4 F D b m S L T 0 w e w' := by
  obtain ⟨c, S', hS', hA, hM⟩ : ∃ (c : Int) (S' : List Seg), (flat S').length = (flat S).length ∧ (∀ W, Ar W b v S → DrA b v r c S' W) ∧ (∀ W, Mz4 0 W m rv L S → DrM m rv L r c S' W) := by
    cases hf : find S r with
    | none =>
      refine ⟨2, S, rfl, fun W hW => (arDrop_none b v S r W hW (by omega) hf).mono fun e w' ⟨he, hw⟩ => ⟨he, by rw [hw]; exact hW, by rw [hw]; exact Mv.refl _ _ _⟩, fun W hW => (mDrop_any 0 m rv L S r W hW).mono fun e w' hh => ?_⟩
      rcases hh with ⟨_, he, hw⟩ | ⟨s, hs, _⟩
      · exact ⟨L, he, by rw [hw]; exact hW, by rw [hw]; exact Mv.refl _ _ _, vs_refl _ _, rfl⟩
      · rw [hf] at hs; cases hs
    | some s =>
      refine ⟨0, dropAt S r, drop_len hf, fun W hW => arDrop_some b v S r s W hW (by omega) hf, fun W hW => (mDrop_any 0 m rv L S r W hW).mono fun e w' hh => ?_⟩
      rcases hh with ⟨hn, _⟩ | ⟨s', hs, L', he, hz, hmv, hvs, hll⟩
      · rw [hf] at hn; cases hn
      · exact ⟨L', he, hz, hmv, hvs, hll⟩
  have hb0 := below_box w (.cells #[.int .i64 4, q1, .int .i64 r, q3, q4] 34)
  have hnF : ¬ F w.heap.size := fun q => absurd (h.lt' _ q) (Nat.lt_irrefl _)
  have ho0 := opObj (w := w) (a := .int .i64 4) (b := q1) (c := .int .i64 r) (d := q3) (e := q4)
  have HI0 : Hid (Pr4 F (w.alloc (.cells #[.int .i64 4, q1, .int .i64 r, q3, q4] 34)) D b v S m rv L tv mv T ∧ ¬ F w.heap.size ∧ (w.alloc (.cells #[.int .i64 4, q1, .int .i64 r, q3, q4] 34)).heap[w.heap.size]? = some (.cells #[.int .i64 4, q1, .int .i64 r, q3, q4] 34 (0, 0)) ∧ Ps4 F F w (w.alloc (.cells #[.int .i64 4, q1, .int .i64 r, q3, q4] 34))) := ⟨h.below hb0, hnF, ho0, Ps4.of_below hb0⟩
  have HA : Hid (∀ W, Ar W b v S → DrA b v r c S' W) := hA
  have HM : Hid (∀ W, Mz4 0 W m rv L S → DrM m rv L r c S' W) := hM
  have HL : Hid ((flat S').length = (flat S).length) := hS'
  obtain ⟨k0, -, k2, -, -⟩ := op_cell ho0
  have hcc : (c == c) = true := beq_self_eq_true _
  clear h hb0 hA hM hS' ho0 hnF
  go_enter Try.func7, Try.ntmps7
  go_upto_region 14 with fail
  generalize w.alloc (.cells #[.int .i64 4, q1, .int .i64 r, q3, q4] 34) = W0 at *
  have HW1 : Hid (Below W0.heap.size W0 W0.drew) := (Below.refl _ _).drew
  have HQ1 : Hid (Pr4 F W0.drew D b v S m rv L tv mv T) := HI0.out.1.below HW1.out
  have HS1 : Hid (W0.drew.cell? ⟨w.heap.size, 2, none⟩ = some (.int .i64 r) ∧ W0.drew.cell? ⟨D, 0, none⟩ = some (.pointer (some ⟨b, 0, none⟩))) := ⟨k2, HQ1.out.cells.1⟩
  have HA1 : Hid (DrA b v r c S' W0.drew) := HA.out _ HQ1.out.ar
  clear k0 k2
  go_region_held (fun W' => W'.cell? ⟨w.heap.size, 2, none⟩ = some (.int .i64 r) ∧ W'.cell? ⟨D, 0, none⟩ = some (.pointer (some ⟨b, 0, none⟩))) (first | with_reducible exact HS1.out | with_reducible exact G1c.out) (first
    | (go_at_call 26; (refine Calls.mono HA1.out ?_); rintro e w1 ⟨rfl, a1, m1⟩; have g1 := HQ1.out.arStep m1 a1; have o1 := g1.2.obj HI0.out.2.2.1 HI0.out.2.1; have G1 : Hid (Pq4 (Fn4 F W0.drew w1) w1 D b v S' m rv L S tv T mv T ∧ Ps4 F (Fn4 F W0.drew w1) w w1 ∧ w1.heap[w.heap.size]? = some (.cells #[.int .i64 4, q1, .int .i64 r, q3, q4] 34 (0, 0)) ∧ ¬ Fn4 F W0.drew w1 w.heap.size) := ⟨g1.1, (HI0.out.2.2.2.trans (Ps4.of_below HW1.out)).trans g1.2, o1.1, o1.2⟩; have G1c : Hid (w1.cell? ⟨w.heap.size, 2, none⟩ = some (.int .i64 r) ∧ w1.cell? ⟨D, 0, none⟩ = some (.pointer (some ⟨b, 0, none⟩))) := ⟨(op_cell o1.1).2.2.1, g1.1.cells.1⟩; clear a1 m1 g1 o1))
  go_upto_region 15 with fail
  have HW2 : Hid (Below w1.heap.size w1 w1.drew) := (Below.refl _ _).drew
  have HQ2 : Hid (Pq4 (Fn4 F W0.drew w1) w1.drew D b v S' m rv L S tv T mv T) := G1.out.1.below HW2.out
  have HS2 : Hid (w1.drew.cell? ⟨w.heap.size, 2, none⟩ = some (.int .i64 r) ∧ w1.drew.cell? ⟨D, 1, none⟩ = some (.pointer (some ⟨m, 0, none⟩))) := ⟨(op_cell G1.out.2.2.1).2.2.1, HQ2.out.cells.2.1⟩
  have HM2 : Hid (DrM m rv L r c S' w1.drew) := HM.out _ HQ2.out.mz
  go_region_held (fun W' => W'.cell? ⟨w.heap.size, 2, none⟩ = some (.int .i64 r) ∧ W'.cell? ⟨D, 1, none⟩ = some (.pointer (some ⟨m, 0, none⟩))) (first | with_reducible exact HS2.out | with_reducible exact G2c.out) (first
    | (go_at_call 27; (refine Calls.mono HM2.out ?_); rintro e w2 ⟨L', rfl, z2, m2, vs2, ll2⟩; have g2 := HQ2.out.docStep m2 z2 vs2; have o2 := g2.2.obj G1.out.2.2.1 G1.out.2.2.2; have G2 : Hid (Pl4 F D b m S L T 0 w (.returned (.bool true)) w2) := ⟨_, _, _, _, _, _, _, _, rfl, g2.1, (G1.out.2.1.trans (Ps4.of_below HW2.out)).trans g2.2, by rw [HL.out]; exact Nat.le_refl _, by rw [ll2]; exact Nat.le_succ _, Nat.le_succ _⟩; have G2c : Hid (w2.cell? ⟨w.heap.size, 2, none⟩ = some (.int .i64 r) ∧ w2.cell? ⟨D, 1, none⟩ = some (.pointer (some ⟨m, 0, none⟩))) := ⟨(op_cell o2.1).2.2.1, g2.1.cells.2.1⟩; clear z2 m2 vs2 ll2 g2 o2))
  go_wp2
  go_ret
  exact G2.out
end Go.Proofs.Ytnglgcipjbpgoaa
