/-
  depotlaw04: plays: Put.
  KEEP: set on app at below new trans refl start ap kept rd rds mono own row cells lt box lo ml ms c0 f0 form max find eq ma some none more map keep ps arStep docStep toldStep movedStep renote tys obj bel
-/
import Derived.Test.YtnglgcipjbpgoaaAn6
set_option linter.unusedSimpArgs false
set_option linter.unusedVariables false
namespace Go.Proofs.Ytnglgcipjbpgoaa
open Go Go.RowKit Go.Maps

theorem Ps4.bel {F F' : Nat → Prop} {w0 w W : World} (p : Ps4 F F' w W) (h : Below w0.heap.size w0 w) (hF : ∀ k, F k → w0.heap.size ≤ k) : Below w0.heap.size w0 W :=
  ⟨p.os.trans h.os, p.tape.trans h.tape, p.output.trans h.output, Nat.le_trans h.size p.size, fun k hk => (p.block k (Nat.lt_of_lt_of_le hk h.size) (fun q => absurd (hF k q) (by omega))).trans (h.block k hk)⟩
def PuA (b : Nat) (v : Value) (l : Bool) (c0 c1 : Int) (S' : List Seg) (W : World) (u : Value) : Prop :=
  Calls Try.prog 15 #[.pointer (some ⟨b, 0, none⟩), u, .bool l] W fun e w' => ∃ v', e = .returned (.tuple #[.int .i64 c0, .int .i64 c1]) ∧ Ar w' b v' S' ∧ Mv W b v w' v'
def PuM (m : Nat) (rv : Value) (L : List Mt) (l : Bool) (c0 c1 : Int) (S' : List Seg) (W : World) (u : Value) : Prop :=
  Calls Try.prog 22 #[.pointer (some ⟨m, 0, none⟩), u, .bool l] W fun e w' => ∃ rv' L', e = .returned (.tuple #[.int .i64 c0, .int .i64 c1]) ∧ Mz4 0 w' m rv' L' S' ∧ Mv W m rv w' rv' ∧ Vs4 W L L' ∧ L'.length ≤ L.length + 1
theorem mPut_bad (m : Nat) (vc : Value) (c : List Int) (l : Bool) (w : World) (hc : Rd w vc c) (hs : c.all fmd = false) :
    Calls Try.prog 22 #[.pointer (some ⟨m, 0, none⟩), vc, .bool l] w fun e w' => e = .returned (.tuple #[.int .i64 0, .int .i64 1]) ∧ w' = w := by
  have HSd : Hid (Calls Try.prog 42 #[vc] w fun e w' => e = .returned (.bool false) ∧ w' = w) := by
    have h5 := rSound_any vc c w hc
    rw [hs] at h5
    exact h5
  clear hc hs
  go_enter Try.func22, Try.ntmps22
  go_wp2_with fail
  refine HSd.out.mono ?_
  rintro e w0 ⟨rfl, ew⟩
  have ew := ew.symm
  subst ew
  go_wp2
  go_returns
  exact ⟨rfl, rfl⟩
theorem vs_app {w : World} {L : List Mt} {u : Value} {x : Mc} (h : ∀ g, u.ownBlock = some g → w.heap.size ≤ g) : Vs4 w L (L ++ [(u, x)]) := fun y hy => by
  rcases List.mem_append.1 hy with e | e
  · exact .inl ⟨y, e, rfl⟩
  · rw [List.mem_singleton.1 e]; exact .inr h
set_option maxRecDepth 100000 in
set_option maxHeartbeats 1600000 in
theorem plays1_any (F : Nat → Prop) (D b m : Nat) (v rv tv mv : Value) (S : List Seg) (L : List Mt) (T : List Te) (q1 q2 q3 : Value) (zs : List Int) (l : Bool) (w : World) (h : Pr4 F w D b v S m rv L tv mv T) (hl : (flat S).length ≤ 1099511627776) (hL : L.length ≤ 1099511627776) (hzl : zs.length ≤ 1099511627776) (hZ : ∀ (F' : Nat → Prop) W, Ps4 F F' w W → Rd W q3 zs) :
    Calls Try.prog 7 #[.pointer (some ⟨D, 0, none⟩), .agg #[.int .i64 1, q1, q2, q3, .bool l]] w fun e w' => Pl4 F D b m S L T (zs.length + 1) w e w' := by
  obtain ⟨c0, c1, S', hS', hA, hM⟩ : ∃ (c0 c1 : Int) (S' : List Seg), (flat S').length ≤ (flat S).length + (zs.length + 1) ∧ (∀ W u, Ar W b v S → Rd W u zs → (∀ g, u.ownBlock = some g → g ≠ b ∧ some g ≠ v.ownBlock) → PuA b v l c0 c1 S' W u) ∧ (∀ W u, Mz4 0 W m rv L S → Rd W u zs → PuM m rv L l c0 c1 S' W u) := by
    cases hs : zs.all fmd with
    | false =>
      exact ⟨0, 1, S, by omega, fun W u hW hu _ => (put_bad _ u zs l W hu hs).mono fun e w' ⟨he, hw⟩ => ⟨v, he, by rw [hw]; exact hW, by rw [hw]; exact Mv.refl _ _ _⟩, fun W u hW hu => (mPut_bad m u zs l W hu hs).mono fun e w' ⟨he, hw⟩ => ⟨rv, L, he, by rw [hw]; exact hW, by rw [hw]; exact Mv.refl _ _ _, vs_refl _ _, by omega⟩⟩
    | true =>
      exact ⟨(flat S).length, 0, S ++ [⟨zs, l, true⟩], by rw [flat_one]; simp, fun W u hW hu hsep => (arPut_any b v u S zs l W hW hu hsep hs (by omega)).mono fun e w' ⟨he, v', a, k⟩ => ⟨v', he, a, k⟩, fun W u hW hu => (mPut_any 0 m rv u L S zs l W hW hu hs hl hL (Nat.zero_le _)).mono fun e w' ⟨he, rv', x, z, k, hx⟩ => ⟨rv', _, he, z, k, vs_app hx, by simp⟩⟩
  have hb0 := below_box w (.cells #[.int .i64 1, q1, q2, q3, .bool l] 34)
  have hnF : ¬ F w.heap.size := fun q => absurd (h.lt' _ q) (Nat.lt_irrefl _)
  have ho0 := opObj (w := w) (a := .int .i64 1) (b := q1) (c := q2) (d := q3) (e := .bool l)
  have HLt : Hid (∀ k, F k → k < w.heap.size) := h.lt'
  have HI0 : Hid (Pr4 F (w.alloc (.cells #[.int .i64 1, q1, q2, q3, .bool l] 34)) D b v S m rv L tv mv T ∧ ¬ F w.heap.size ∧ (w.alloc (.cells #[.int .i64 1, q1, q2, q3, .bool l] 34)).heap[w.heap.size]? = some (.cells #[.int .i64 1, q1, q2, q3, .bool l] 34 (0, 0)) ∧ Ps4 F F w (w.alloc (.cells #[.int .i64 1, q1, q2, q3, .bool l] 34)) ∧ w.heap.size ≤ (w.alloc (.cells #[.int .i64 1, q1, q2, q3, .bool l] 34)).heap.size) := ⟨h.below hb0, hnF, ho0, Ps4.of_below hb0, hb0.size⟩
  have HA : Hid (∀ W u, Ar W b v S → Rd W u zs → (∀ g, u.ownBlock = some g → g ≠ b ∧ some g ≠ v.ownBlock) → PuA b v l c0 c1 S' W u) := hA
  have HM : Hid (∀ W u, Mz4 0 W m rv L S → Rd W u zs → PuM m rv L l c0 c1 S' W u) := hM
  have HL : Hid ((flat S').length ≤ (flat S).length + (zs.length + 1)) := hS'
  have HZ : Hid (∀ (F' : Nat → Prop) W, Ps4 F F' w W → Rd W q3 zs) := hZ
  have H8 : Hid (zs.length * 8 ≤ 140737488351232) := (hZ F w (Ps4.of_below (Below.refl _ _))).len
  obtain ⟨k0, -, -, k3, k4⟩ := op_cell ho0
  have hcc0 : (c0 == c0) = true := beq_self_eq_true _
  have hcc1 : (c1 == c1) = true := beq_self_eq_true _
  clear h hb0 hA hM hS' ho0 hnF hZ
  go_enter Try.func7, Try.ntmps7
  go_upto_region 3 with fail
  generalize w.alloc (.cells #[.int .i64 1, q1, q2, q3, .bool l] 34) = W0 at *
  have HW1 : Hid (Below W0.heap.size W0 W0.drew) := (Below.refl _ _).drew
  have HQ1 : Hid (Pr4 F W0.drew D b v S m rv L tv mv T) := HI0.out.1.below HW1.out
  have HP1 : Hid (Ps4 F F w W0.drew) := HI0.out.2.2.2.1.trans (Ps4.of_below HW1.out)
  have HS1 : Hid (W0.drew.cell? ⟨w.heap.size, 3, none⟩ = some q3 ∧ W0.drew.cell? ⟨w.heap.size, 4, none⟩ = some (.bool l) ∧ W0.drew.cell? ⟨D, 0, none⟩ = some (.pointer (some ⟨b, 0, none⟩))) := ⟨k3, k4, HQ1.out.cells.1⟩
  have HCo : Hid (Calls Try.prog 17 #[q3] W0.drew fun e w' => ∃ v', e = .returned v' ∧ Own W0.drew.heap.size w' v' zs ∧ Below W0.drew.heap.size W0.drew w') := copied4_any q3 zs W0.drew (HZ.out _ _ HP1.out)
  clear k0 k3 k4
  go_region_held (fun W' => W'.cell? ⟨w.heap.size, 3, none⟩ = some q3 ∧ W'.cell? ⟨w.heap.size, 4, none⟩ = some (.bool l) ∧ W'.cell? ⟨D, 0, none⟩ = some (.pointer (some ⟨b, 0, none⟩))) (first | with_reducible exact HS1.out | with_reducible exact G1c.out | with_reducible exact G2c.out) (first
    | (go_at_call 17; (refine Calls.mono HCo.out ?_); rintro e w1 ⟨u, rfl, ou, bu⟩; have G1 : Hid (Pr4 F w1 D b v S m rv L tv mv T ∧ Ps4 F F w w1 ∧ w1.heap[w.heap.size]? = some (.cells #[.int .i64 1, q1, q2, q3, .bool l] 34 (0, 0))) := ⟨HQ1.out.below bu, HP1.out.trans (Ps4.of_below bu), ((Ps4.of_below bu).obj HI0.out.2.2.1 HI0.out.2.1).1⟩; have HA1 : Hid (PuA b v l c0 c1 S' w1 u) := HA.out w1 u G1.out.1.ar (ou.rd H8.out) (fun g hg => by (have hg1 := (World.ownsRow.lt ou g hg).1); (have hg2 : w.heap.size ≤ g := Nat.le_trans HP1.out.size hg1); exact ⟨fun q => by (have hq := HLt.out b HQ1.out.fD.2.1); omega, fun q => by (have hq := HLt.out g (HQ1.out.fv.1 g q.symm)); omega⟩); have G1c : Hid (w1.cell? ⟨w.heap.size, 3, none⟩ = some q3 ∧ w1.cell? ⟨w.heap.size, 4, none⟩ = some (.bool l) ∧ w1.cell? ⟨D, 0, none⟩ = some (.pointer (some ⟨b, 0, none⟩))) := ⟨(op_cell G1.out.2.2).2.2.2.1, (op_cell G1.out.2.2).2.2.2.2, G1.out.1.cells.1⟩; clear ou bu)
    | (go_at_call 15; (refine Calls.mono HA1.out ?_); rintro e w2 ⟨v', rfl, a1, m1⟩; have g1 := G1.out.1.arStep m1 a1; have o1 := g1.2.obj G1.out.2.2 HI0.out.2.1; have G2 : Hid (Pq4 (Fn4 F w1 w2) w2 D b v' S' m rv L S tv T mv T ∧ Ps4 F (Fn4 F w1 w2) w w2 ∧ w2.heap[w.heap.size]? = some (.cells #[.int .i64 1, q1, q2, q3, .bool l] 34 (0, 0)) ∧ ¬ Fn4 F w1 w2 w.heap.size) := ⟨g1.1, G1.out.2.1.trans g1.2, o1.1, o1.2⟩; have G2c : Hid (w2.cell? ⟨w.heap.size, 3, none⟩ = some q3 ∧ w2.cell? ⟨w.heap.size, 4, none⟩ = some (.bool l) ∧ w2.cell? ⟨D, 0, none⟩ = some (.pointer (some ⟨b, 0, none⟩))) := ⟨(op_cell o1.1).2.2.2.1, (op_cell o1.1).2.2.2.2, g1.1.cells.1⟩; clear a1 m1 g1 o1))
  go_upto_region 4 with fail
  have HW2 : Hid (Below w2.heap.size w2 w2.drew) := (Below.refl _ _).drew
  have HQ2 : Hid (Pq4 (Fn4 F w1 w2) w2.drew D b v' S' m rv L S tv T mv T) := G2.out.1.below HW2.out
  have HS2 : Hid (w2.drew.cell? ⟨w.heap.size, 3, none⟩ = some q3 ∧ w2.drew.cell? ⟨w.heap.size, 4, none⟩ = some (.bool l) ∧ w2.drew.cell? ⟨D, 1, none⟩ = some (.pointer (some ⟨m, 0, none⟩))) := ⟨(op_cell G2.out.2.2.1).2.2.2.1, (op_cell G2.out.2.2.1).2.2.2.2, HQ2.out.cells.2.1⟩
  have HM2 : Hid (PuM m rv L l c0 c1 S' w2.drew q3) := HM.out _ _ HQ2.out.mz (HZ.out _ _ (G2.out.2.1.trans (Ps4.of_below HW2.out)))
  go_region_held (fun W' => W'.cell? ⟨w.heap.size, 3, none⟩ = some q3 ∧ W'.cell? ⟨w.heap.size, 4, none⟩ = some (.bool l) ∧ W'.cell? ⟨D, 1, none⟩ = some (.pointer (some ⟨m, 0, none⟩))) (first | with_reducible exact HS2.out | with_reducible exact G3c.out) (first
    | (go_at_call 22; (refine Calls.mono HM2.out ?_); rintro e w3 ⟨rv', L', rfl, z2, m2, vs2, ll2⟩; have g2 := HQ2.out.docStep m2 z2 vs2; have o2 := g2.2.obj G2.out.2.2.1 G2.out.2.2.2; have G3 : Hid (Pl4 F D b m S L T (zs.length + 1) w (.returned (.bool true)) w3) := ⟨_, _, _, _, _, _, _, _, rfl, g2.1, (G2.out.2.1.trans (Ps4.of_below HW2.out)).trans g2.2, HL.out, ll2, Nat.le_succ _⟩; have G3c : Hid (w3.cell? ⟨w.heap.size, 3, none⟩ = some q3 ∧ w3.cell? ⟨w.heap.size, 4, none⟩ = some (.bool l) ∧ w3.cell? ⟨D, 1, none⟩ = some (.pointer (some ⟨m, 0, none⟩))) := ⟨(op_cell o2.1).2.2.2.1, (op_cell o2.1).2.2.2.2, g2.1.cells.2.1⟩; clear z2 m2 vs2 ll2 g2 o2))
  go_wp2
  go_ret
  exact G3.out
end Go.Proofs.Ytnglgcipjbpgoaa
