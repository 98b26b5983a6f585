/-
  A region that draws its order, inside a range's round, whose callees make new memory alone; a range over drat.Steps that is left by a break.
  KEEP: next kpd drew cell frozen nb bel q dd sz keep size same block os tape output mono lt own new of_grownBy setCell refl trans kn
-/
import Derived.Test.YtaipajalkendaaaDoorDrGv
import Derived.Test.YtaipajalkendaaaDoorQuietX
set_option linter.unusedSimpArgs false
set_option linter.unusedVariables false
namespace Go.Proofs.YtaipajalkendaaaDoor
open Go Go.RowKit Go.Lib Go.Sort Go.Shelf

/-- a range over drat.Steps that is left by a break or goes to its end, the way behind it one -/
theorem wpIn_rangeD_brk {n : Nat} {g : Operand} {ps : Array Tmp} {assign body : Code} {Q : Exit → Act → World → Prop} {a : Act} {w : World} (h1 : 1 ≤ n) {Bs : Nat} {s : ByteArray} {FS : List Stp}
    (hg : a.eval g = .func (.func 36) #[] #[.pointer (some ⟨Bs, 0, none⟩)]) (hbs : w.cell? ⟨Bs, 0, none⟩ = some (.string s)) (hs : s.size ≤ 1099511627776) (hFS : FS = (parD s.data.toList).1) (hps : ps.size = 1)
    (I : (Nat → Prop) → List SV → World → Prop) (E : World → Prop) (id : Nat) (hI : ∀ Q, OwnFrom w.heap.size (I Q)) (hI2 : ∀ Q Q' s A B, I Q s A → Mq A Q B Q' → I Q' s B) (hE : OwnFrom w.heap.size (fun (_ : Unit) W => E W)) (hIE : ∀ Q s A, I Q s A → Env A) (h0 : I (fun _ => False) [] w) (a₁ : SV → Nat → Act)
    (hassign : ∀ (l : Nat) (x : SV) (W : World) (K : Act → World → Prop), (∃ aa cc, x.2.1 = .slice aa x.2.2.length cc) → K (a₁ x W.heap.size) (W.alloc (.cells #[.bool x.1, x.2.1] 41)) →
      assign.wpIn (Fence.wide.inRound l) (n - 1 - 1) Tryd.prog (Exit.then K (fun _ _ _ => False)) { tmps := (ps.zip #[Value.agg #[.bool x.1, x.2.1]]).foldl (fun t (p, v) => t.setIfInBounds p v) a.tmps, defers := [] } W)
    (hbody : ∀ (l : Nat) (Qs : Nat → Prop) (pre : List SV) (x : SV) (S0 Bx : Nat) (W : World), I Qs pre W → (∀ k, Qs k → w.heap.size + 2 ≤ k ∧ k < Bx) → svS (pre ++ [x]) <+: FS → w.heap.size + 2 ≤ S0 → S0 ≤ Bx → Own S0 W x.2.1 x.2.2 → (∀ k, some k = x.2.1.ownBlock → ¬ Qs k) → x.2.2.length ≤ 1099511627777 → Bx2 W Bx 41 (.bool x.1) x.2.1 →
      body.wpIn (Fence.wide.inRound l) (n - 1 - 1) Tryd.prog (ownPostK (KpD Qs) (I Qs) (fun c _ W => c = .exit id ∧ E W) (pre ++ [x]) W) (a₁ x Bx) W)
    (hdone : ∀ (Qs : Nat → Prop) (xs : List SV) (W : World), svS xs = FS → I Qs xs W → E W) (hQ : ∀ a w, Q .normal a w → Q (.exit id) a w)
    (htail : ∀ (D : Nat) (W : World), w.heap.size ≤ D → E W → W.heap[D]? = some (.deferred (some [])) → Q .normal { a with defers := { target := .collected D, args := #[] } :: a.defers } W) :
    (Code.rangeFunc g ps assign body).wpIn Fence.wide n Tryd.prog Q a w :=
  wpIn_rangeD h1 hg hbs hs hFS hps I (fun c _ W => c = .exit id ∧ E W) hI hI2 (fun c s A B row hs hg hr => ⟨hs.1, hE () A B row hs.2 hg hr⟩) hIE h0 a₁ hassign hbody
    (fun D Qs xs W hD hS hI hK => htail D W hD (hdone Qs xs W hS hI) hK)
    (fun D c pre W hD hSp hIx hK => by
      obtain ⟨rfl, hE'⟩ := hIx
      exact wpIn_exit (hQ _ _ (htail D W hD hE' hK)))

/-- what a range holds between two rounds: the count, all that was there, the marks of earlier ranges -/
structure GsI (A : World) (M : Nat) (Ds : List Nat) (Qs : Nat → Prop) (pre : List SV) (W : World) : Prop where
  nb : W.heap[A.heap.size]? = some (.cells #[.int .i64 (pre.length : Nat)] 3 (0, 0))
  bel : Below A.heap.size A W
  q : ∀ k, Qs k → M ≤ k
  dd : ∀ d ∈ Ds, W.heap[d]? = some (.deferred (some []))
  sz : M ≤ W.heap.size
structure GsE (A : World) (M : Nat) (P : Nat → Prop) (W : World) : Prop where
  nb : ∃ m : Nat, W.heap[A.heap.size]? = some (.cells #[.int .i64 (m : Nat)] 3 (0, 0)) ∧ P m
  bel : Below A.heap.size A W
  sz : M ≤ W.heap.size
section
variable {A : World} {M : Nat} {Ds : List Nat} {Qs Q' : Nat → Prop} {pre p2 : List SV} {W V : World} {P : Nat → Prop}
theorem GsI.keep (h : GsI A M Ds Qs pre W) (hM : A.heap.size + 1 ≤ M) (hD : ∀ d ∈ Ds, d < M) (hk : ∀ k, k < M → V.heap[k]? = W.heap[k]?) (hs : W.heap.size ≤ V.heap.size) (h1 : V.os = W.os) (h2 : V.tape = W.tape) (h3 : V.output = W.output) (hq : ∀ k, Q' k → M ≤ k) : GsI A M Ds Q' pre V :=
  ⟨(hk _ (by omega)).trans h.nb, ⟨h1.trans h.bel.os, h2.trans h.bel.tape, h3.trans h.bel.output, Nat.le_trans h.bel.size hs, fun k hk' => (hk k (by omega)).trans (h.bel.block k hk')⟩, hq, fun d hd => (hk d (hD d hd)).trans (h.dd d hd), Nat.le_trans h.sz hs⟩
theorem GsE.keep (h : GsE A M P W) (hM : A.heap.size + 1 ≤ M) (hk : ∀ k, k < M → V.heap[k]? = W.heap[k]?) (hs : W.heap.size ≤ V.heap.size) (h1 : V.os = W.os) (h2 : V.tape = W.tape) (h3 : V.output = W.output) : GsE A M P V := by
  obtain ⟨m, hm, hp⟩ := h.nb
  exact ⟨⟨m, (hk _ (by omega)).trans hm, hp⟩, ⟨h1.trans h.bel.os, h2.trans h.bel.tape, h3.trans h.bel.output, Nat.le_trans h.bel.size hs, fun k hk' => (hk k (by omega)).trans (h.bel.block k hk')⟩, Nat.le_trans h.sz hs⟩
theorem GsI.own (hM : A.heap.size + 1 ≤ M) (hD : ∀ d ∈ Ds, d < M) : OwnFrom M (GsI A M Ds Qs) := fun s X Y row hs hg hr =>
  hs.keep hM hD (fun k hk => hg.block k (by have := hs.sz; omega) (fun e => by have := (hr k e.symm).1; omega)) hg.size hg.os hg.tape hg.output hs.q
theorem GsE.own (hM : A.heap.size + 1 ≤ M) : OwnFrom M (fun (_ : Unit) W => GsE A M P W) := fun s X Y row hs hg hr =>
  GsE.keep hs hM (fun k hk => hg.block k (by have := GsE.sz hs; omega) (fun e => by have := (hr k e.symm).1; omega)) hg.size hg.os hg.tape hg.output
theorem GsI.mq (h : GsI A M Ds Qs pre W) (hM : A.heap.size + 1 ≤ M) (hD : ∀ d ∈ Ds, d < M) (hm : Mq W Qs V Q') : GsI A M Ds Q' pre V :=
  h.keep hM hD (fun k hk => hm.block k (by have := h.sz; omega) (fun hq => by have := h.q k hq; omega)) hm.size hm.os hm.tape hm.output (fun k hk => by
    rcases hm.new k hk with h1 | h1
    · exact h.q k h1
    · have := h.sz; omega)
theorem GsI.next (h : GsI A M Ds Qs pre W) (hM : A.heap.size + 1 ≤ M) (hb : Below W.heap.size W V) {m : Nat} (hn : p2.length = m + 1) : GsI A M Ds Qs p2 (V.setCell ⟨A.heap.size, 0, none⟩ (.int .i64 ((m : Int) + 1))) := by
  have hlt : A.heap.size < W.heap.size := (Array.getElem?_eq_some_iff.1 h.nb).1
  have hn0 : V.heap[A.heap.size]? = _ := (hb.block _ hlt).trans h.nb
  have hb2 : Below A.heap.size A V := h.bel.trans (hb.mono h.bel.size)
  refine ⟨?_, hb2.setCell (p := ⟨A.heap.size, 0, none⟩) (Nat.le_refl _) _, h.q, fun d hd => ?_, by rw [World.size_setCell]; exact Nat.le_trans h.sz hb.size⟩
  · rw [hn]
    have := Joins.block_setCell (i := 0) hn0 (.int .i64 ((m : Int) + 1))
    simpa using this
  · have hd0 := h.dd d hd
    have hdl : d < W.heap.size := (Array.getElem?_eq_some_iff.1 hd0).1
    have hne : d ≠ A.heap.size := fun e => by rw [e, h.nb] at hd0; cases hd0
    exact (Below.heap_setCell _ ⟨A.heap.size, 0, none⟩ _ d hne).trans ((hb.block d hdl).trans hd0)
theorem GsI.kpd (h : GsI A M Ds Qs pre W) (hM : A.heap.size + 1 ≤ M) (hb : Below W.heap.size W V) (hq : ∀ k, Qs k → k < W.heap.size) (v : Value) : KpD Qs W (V.setCell ⟨A.heap.size, 0, none⟩ v) :=
  ⟨fun k hk => (Below.heap_setCell _ ⟨A.heap.size, 0, none⟩ _ k (by have := h.q k hk; show k ≠ A.heap.size; omega)).trans (hb.block k (hq k hk)), by rw [World.size_setCell]; exact hb.size⟩
end
theorem cell_ofx {W : World} {g : Nat} {x : Value} {t : TypeId} (h : W.heap[g]? = some (.cells #[x] t (0, 0))) : W.cell? ⟨g, 0, none⟩ = some x := by unfold World.cell?; dsimp only; rw [h]; rfl
theorem frozen_ofx {W : World} {g : Nat} {x : Value} {t : TypeId} (h : W.heap[g]? = some (.cells #[x] t (0, 0))) : W.frozen? ⟨g, 0, none⟩ = false := by simp [World.frozen?, h]

end Go.Proofs.YtaipajalkendaaaDoor
