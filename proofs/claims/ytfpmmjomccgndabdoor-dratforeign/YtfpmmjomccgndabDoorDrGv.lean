/-
  gives of the laws of layer 9, walked.
  KEEP: next kpd drew cell frozen cg kp nb wb rb bel q pf same block size os tape output mono lt own new c f set of_grownBy setCell refl trans
-/
import Derived.Test.YtfpmmjomccgndabDoorRangeD
import Derived.Test.YtfpmmjomccgndabDoorSamesQ
import Derived.Sort.CutIn
import Derived.Test.YtfpmmjomccgndabDoorQuietR
set_option linter.unusedSimpArgs false
set_option linter.unusedVariables false
namespace Go.Proofs.YtfpmmjomccgndabDoor
open Go Go.RowKit Go.Shelf

attribute [local go_sem] Oper.semAt_some

def noPanic9 (Q : Exit → Act → World → Prop) : Exit → Act → World → Prop
  | .panic _, _, _ => False
  | e, a, w => Q e a w
theorem calls_marks9 {P : Program} {f : FuncId} {fn : Func} {c : Code} {args : Array Value} {w : World} {R : Ending → World → Prop} (n : Nat) (hf : P.funcs[f]? = some fn) (hb : fn.body = some c)
    (h : c.wp P (noPanic9 (bodyPostM Fence.wide n P fn R)) { tmps := args ++ Array.replicate (fn.ntmps - args.size) undef, defers := [] } w) : Calls P f args w R :=
  callsIn_wide.1 (callsIn_of_wp_marks hf hb trivial (wpIn_wide.2 (wp_mono h (by intro e a w h; cases e <;> first | exact h | exact h.elim))))
theorem keeps_below9 {w w' : World} (h : Below w.heap.size w w') : KeepsOthers w w' := KeepsOthers.of_grownBy (grown_below h) (fun _ _ e _ => by cases e)
/-- a row that may be written -/
def Cg (W : World) (g n : Nat) : Prop := ∃ cur, W.heap[g]? = some (.cells cur 3 (0, 0)) ∧ n ≤ cur.size
theorem Cg.c {W : World} {g n k : Nat} (h : Cg W g n) (hk : k < n) : ∃ v, W.cell? ⟨g, k, none⟩ = some v ∧ W.frozen? ⟨g, k, none⟩ = false := by
  obtain ⟨cur, h1, h2⟩ := h
  exact ⟨cur[k]'(by omega), by simp [World.cell?, h1, show k < cur.size by omega], by simp [World.frozen?, h1]⟩
theorem Cg.set {W : World} {g n : Nat} (h : Cg W g n) (k : Nat) (v : Value) : Cg (W.setCell ⟨g, k, none⟩ v) g n := by
  obtain ⟨cur, h1, h2⟩ := h
  exact ⟨_, Joins.block_setCell h1 v, by simpa using h2⟩
theorem Cg.of {B : Nat} {W : World} {g c : Nat} {Y : List Int} (h : Own B W (.slice (some ⟨g, 0, none⟩) Y.length c) Y) : Cg W g Y.length ∧ B ≤ g ∧ g < W.heap.size := by
  rcases h.2 with ⟨h0, _⟩ | ⟨g', cap, cur, hv, hg, hh, hn, hm, hs, ht⟩
  · simp at h0
  · injection hv with q1 q2 q3
    injection q1 with q1
    injection q1 with q1 _ _
    subst q1
    exact ⟨⟨cur, hh, by omega⟩, hg, (Array.getElem?_eq_some_iff.1 hh).1⟩

set_option maxRecDepth 20000 in
theorem func_nil9 (k : Nat) (lb : Array Value) (w : World) : (binOp BinOp.eql 38 (.func (.func k) #[] lb) .nilFunc).run Tryd.prog w = .ok (.bool false) w := by rfl
/-- what gives holds between two rounds -/
structure GvI (w : World) (u : Value) (FS : List Stp) (Qs : Nat → Prop) (pre : List SV) (W : World) : Prop where
  nb : W.heap[w.heap.size + 2]? = some (.cells #[.int .i64 (pre.length : Nat)] 3 (0, 0))
  wb : W.heap[w.heap.size]? = some (.cells #[u] 22 (0, 0))
  rb : W.heap[w.heap.size + 1]? = some (.cells #[.bool false] 4 (0, 0))
  bel : Below w.heap.size w W
  q : ∀ k, Qs k → w.heap.size + 3 ≤ k
theorem GvI.keep {w : World} {u : Value} {FS : List Stp} {Qs Q' : Nat → Prop} {pre : List SV} {A B : World} (h : GvI w u FS Qs pre A) (hk : ∀ k, k < w.heap.size + 3 → B.heap[k]? = A.heap[k]?) (hs : A.heap.size ≤ B.heap.size) (h1 : B.os = A.os) (h2 : B.tape = A.tape) (h3 : B.output = A.output) (hq : ∀ k, Q' k → w.heap.size + 3 ≤ k) : GvI w u FS Q' pre B :=
  ⟨(hk _ (by omega)).trans h.nb, (hk _ (by omega)).trans h.wb, (hk _ (by omega)).trans h.rb, ⟨h1.trans h.bel.os, h2.trans h.bel.tape, h3.trans h.bel.output, Nat.le_trans h.bel.size hs, fun k hk' => (hk k (by omega)).trans (h.bel.block k hk')⟩, hq⟩
theorem GvI.size {w : World} {u : Value} {FS : List Stp} {Qs : Nat → Prop} {pre : List SV} {A : World} (h : GvI w u FS Qs pre A) : w.heap.size + 3 ≤ A.heap.size := (Array.getElem?_eq_some_iff.1 h.nb).1
theorem pre_lt {pre : List SV} {x : SV} {FS : List Stp} (h : svS (pre ++ [x]) <+: FS) : pre.length < FS.length ∧ FS.getD pre.length (false, []) = (x.1, x.2.2) := by
  obtain ⟨r, hr⟩ := h
  rw [svS_snoc, List.append_assoc] at hr
  have hl : (svS pre).length = pre.length := svS_len pre
  constructor
  · rw [← hr]; simp [svS_len]
  · rw [← hr, List.getD_eq_getElem?_getD, List.getElem?_append_right (by omega), hl]; simp

/-- what the inner loop leaves -/
structure Gl (W : World) (gg N : Nat) (V : World) : Prop where
  block : ∀ k, (0 < N → k ≠ gg) → V.heap[k]? = W.heap[k]?
  size : V.heap.size = W.heap.size
  os : V.os = W.os
  tape : V.tape = W.tape
  output : V.output = W.output
  cg : 0 < N → Cg V gg N
  kp : KeepsOthers W V
theorem Gl.drew {W : World} {gg N : Nat} (h : 0 < N → Cg W gg N) (n : Nat) : Gl W gg N (W.drewN n) :=
  ⟨fun _ _ => rfl, rfl, rfl, rfl, rfl, fun q => h q, keeps_below9 (below_drewN _ _)⟩
theorem Gl.set {W V : World} {gg N : Nat} (h : Gl W gg N V) (hN : 0 < N) (k : Nat) (v : Value) : Gl W gg N (V.setCell ⟨gg, k, none⟩ v) :=
  ⟨fun b hb => (Below.heap_setCell _ _ _ _ (hb hN)).trans (h.block b hb), (World.size_setCell ..).trans h.size, h.os, h.tape, h.output, fun q => (h.cg q).set k v, h.kp.trans (KeepsOthers.setCell _ _ _)⟩
theorem Gl.cell {W V : World} {gg N : Nat} (h : Gl W gg N V) {p : Addr} (hp : 0 < N → p.block ≠ gg) : V.cell? p = W.cell? p := World.cell?_of_block (h.block _ hp)
theorem Gl.frozen {W V : World} {gg N : Nat} (h : Gl W gg N V) {p : Addr} (hp : 0 < N → p.block ≠ gg) : V.frozen? p = W.frozen? p := by simp [World.frozen?, h.block _ hp]
theorem GvI.next {w : World} {u : Value} {FS : List Stp} {Qs : Nat → Prop} {pre p2 : List SV} {W V : World} {gg N m : Nat} (h : GvI w u FS Qs pre W) (hG : Gl W gg N V) (hg : w.heap.size + 5 ≤ gg) (hn : p2.length = m + 1) : GvI w u FS Qs p2 (V.setCell ⟨w.heap.size + 1 + 1, 0, none⟩ (.int .i64 ((m : Int) + 1))) := by
  have hk : ∀ k, k < w.heap.size + 3 → V.heap[k]? = W.heap[k]? := fun k hk => hG.block k (fun _ => by omega)
  refine ⟨?_, ?_, ?_, ?_, h.q⟩
  · rw [hn]
    have := Joins.block_setCell (i := 0) ((hk (w.heap.size + 2) (by omega)).trans h.nb) (.int .i64 ((m : Int) + 1))
    simpa using this
  · exact (Below.heap_setCell _ _ _ _ (by show w.heap.size ≠ w.heap.size + 1 + 1; omega)).trans ((hk _ (by omega)).trans h.wb)
  · exact (Below.heap_setCell _ _ _ _ (by show w.heap.size + 1 ≠ w.heap.size + 1 + 1; omega)).trans ((hk _ (by omega)).trans h.rb)
  · have b1 : Below w.heap.size w V := ⟨hG.os.trans h.bel.os, hG.tape.trans h.bel.tape, hG.output.trans h.bel.output, by rw [hG.size]; exact h.bel.size, fun k hk' => (hk k (by omega)).trans (h.bel.block k hk')⟩
    exact b1.setCell (p := ⟨w.heap.size + 1 + 1, 0, none⟩) (by show w.heap.size ≤ w.heap.size + 1 + 1; omega) _
theorem GvI.kpd {w : World} {u : Value} {FS : List Stp} {Qs : Nat → Prop} {pre : List SV} {W V : World} {gg N : Nat} (h : GvI w u FS Qs pre W) (hG : Gl W gg N V) (hq : ¬ Qs gg) (v : Value) : KpD Qs W (V.setCell ⟨w.heap.size + 1 + 1, 0, none⟩ v) :=
  ⟨fun k hk => (Below.heap_setCell _ _ _ _ (by have := h.q k hk; show k ≠ w.heap.size + 1 + 1; omega)).trans (hG.block k (fun _ e => hq (e ▸ hk))), by rw [World.size_setCell, hG.size]; exact Nat.le_refl _⟩

end Go.Proofs.YtfpmmjomccgndabDoor
