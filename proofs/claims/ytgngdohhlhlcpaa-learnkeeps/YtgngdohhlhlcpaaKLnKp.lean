/-
  learn: what LearnKeeps leans on: the answers, kept apart.
  KEEP: set on app at below new trans refl start ap kept rd rds mono lt add none own nil put len pos setF setV putL putR other neV same_any row box fx
-/
import Derived.Test.YtgngdohhlhlcpaaLeO
import Derived.Test.YtgngdohhlhlcpaaJLnV
import Derived.Test.YtgngdohhlhlcpaaJLnCw
import Derived.Test.YtgngdohhlhlcpaaJLnF
import Derived.Test.YtgngdohhlhlcpaaLnRc
import Derived.Test.YtgngdohhlhlcpaaLnE
import Derived.Test.YtgngdohhlhlcpaaAparQW
set_option linter.unusedSimpArgs false
set_option linter.unusedVariables false
namespace Go.Proofs.Ytgngdohhlhlcpaa
open Go Go.RowKit
/-- what Learn and Shrink answer -/
def lnL (t : List Ent) (zs : List Int) : List Int := if askI t zs = 0 then lrnC t zs else []
def lnB (t : List Ent) (zs : List Int) : Int := if askI t zs = 0 then lrnB t zs else 0
def shL (t : List Ent) (zs : List Int) : List Int := if askI t zs = 0 then shrK t zs zs.length else []
theorem lnL_len (t : List Ent) (zs : List Int) : (lnL t zs).length * 8 ≤ 140737488351232 := by
  unfold lnL
  split
  · unfold lrnC
    split
    · simp
    · have := tid_len (othL t (topI t zs) (RS t zs))
      simp; omega
  · simp
theorem shL_len (t : List Ent) (zs : List Int) (h : zs.length * 8 ≤ 140737488351232) : (shL t zs).length * 8 ≤ 140737488351232 := by
  unfold shL
  split
  · have := shrK_len t zs zs.length; omega
  · simp
theorem lnK_any (v vc : Value) (t : List Ent) (zs : List Int) (w : World) (hr : RdE w v t) (hz : Rd w vc zs) : Calls Try.prog 6 #[v, vc] w fun e w' => ∃ xa xc, e = .returned (.tuple #[.slice xa (lnL t zs).length xc, .int .i64 (lnB t zs), .int .i64 (askI t zs)]) ∧ Own w.heap.size w' (.slice xa (lnL t zs).length xc) (lnL t zs) ∧ Below w.heap.size w w' :=
  (learn_any v vc t zs w hr hz).mono fun e w' ⟨⟨x, q3, q4⟩, q5⟩ => by
    have q4' : Own w.heap.size w' x (lnL t zs) := q4
    obtain ⟨xa, xc, rfl⟩ := own_form q4'
    exact ⟨xa, xc, q3, q4', q5⟩
theorem rlK_any (v vc : Value) (t : List Ent) (zs : List Int) (w : World) (hr : RdE w v t) (hz : Rd w vc zs) : Calls Try.prog 14 #[v, vc] w fun e w' => ∃ xa xc, e = .returned (.tuple #[.slice xa (lnL t zs).length xc, .int .i64 (lnB t zs), .int .i64 (askI t zs)]) ∧ Own w.heap.size w' (.slice xa (lnL t zs).length xc) (lnL t zs) ∧ Below w.heap.size w w' :=
  (rLearn_any v vc t zs w hr hz).mono fun e w' ⟨⟨x, q3, q4⟩, q5⟩ => by
    have q4' : Own w.heap.size w' x (lnL t zs) := q4
    obtain ⟨xa, xc, rfl⟩ := own_form q4'
    exact ⟨xa, xc, q3, q4', q5⟩
theorem shK_any (v vc : Value) (t : List Ent) (zs : List Int) (w : World) (hr : RdE w v t) (hz : Rd w vc zs) : Calls Try.prog 7 #[v, vc] w fun e w' => ∃ xa xc, e = .returned (.tuple #[.slice xa (shL t zs).length xc, .int .i64 (askI t zs)]) ∧ Own w.heap.size w' (.slice xa (shL t zs).length xc) (shL t zs) ∧ Below w.heap.size w w' :=
  (shrink_any v vc t zs w hr hz).mono fun e w' ⟨⟨x, q3, q4⟩, q5⟩ => by
    have q4' : Own w.heap.size w' x (shL t zs) := q4
    obtain ⟨xa, xc, rfl⟩ := own_form q4'
    exact ⟨xa, xc, q3, q4', q5⟩
theorem rsK_any (v vc : Value) (t : List Ent) (zs : List Int) (w : World) (hr : RdE w v t) (hz : Rd w vc zs) : Calls Try.prog 15 #[v, vc] w fun e w' => ∃ xa xc, e = .returned (.tuple #[.slice xa (shL t zs).length xc, .int .i64 (askI t zs)]) ∧ Own w.heap.size w' (.slice xa (shL t zs).length xc) (shL t zs) ∧ Below w.heap.size w w' :=
  (rShrink_any v vc t zs w hr hz).mono fun e w' ⟨⟨x, q3, q4⟩, q5⟩ => by
    have q4' : Own w.heap.size w' x (shL t zs) := q4
    obtain ⟨xa, xc, rfl⟩ := own_form q4'
    exact ⟨xa, xc, q3, q4', q5⟩
/-- answers that are a call's own, and lie apart -/
structure An (B : Nat) (W : World) (A : List Cls) : Prop where
  own : ∀ x ∈ A, Own B W x.1 x.2
  ap : ApartC A
section
variable {B : Nat} {W W' : World} {A : List Cls} {u : Value} {z : List Int}
theorem An.nil (B : Nat) (W : World) : An B W [] := ⟨fun x hx => (by cases hx), List.Pairwise.nil⟩
theorem An.below (h : An B W A) (hb : Below W.heap.size W W') : An B W' A := ⟨fun x hx => (h.own x hx).below hb, h.ap⟩
theorem An.add (h : An B W A) (hb : Below W.heap.size W W') (ho : Own W.heap.size W' u z) (hB : B ≤ W.heap.size) : An B W' (A ++ [(u, z)]) := by
  refine ⟨fun x hx => ?_, ApartC.snoc h.ap h.own ho (Nat.le_refl _)⟩
  rcases List.mem_append.1 hx with hx | hx
  · exact (h.own x hx).below hb
  · obtain rfl : x = (u, z) := by simpa using hx
    exact ho.mono hB
theorem own_fx {Q : Nat → Prop} (h : Own B W u z) (hf : Fx Q W W') (hq : ∀ k, Q k → k < B) : Own B W' u z :=
  row_kept h fun k e => hf.block k (h.lt k e.symm).2 fun hk => by have := hq k hk; have := (h.lt k e.symm).1; omega
theorem An.fx {Q : Nat → Prop} (h : An B W A) (hf : Fx Q W W') (hq : ∀ k, Q k → k < B) : An B W' A := ⟨fun x hx => own_fx (h.own x hx) hf hq, h.ap⟩
theorem An.at (h : An B W A) {i : Nat} {x : Cls} (hi : A[i]? = some x) : Own B W x.1 x.2 := h.own x (List.mem_of_getElem? hi)
theorem An.two (h : An B W A) {i j : Nat} (hi : i < A.length) (hj : j < A.length) (hne : i ≠ j) : (A[i]).1.ownBlock = none ∨ (A[i]).1.ownBlock ≠ (A[j]).1.ownBlock := by
  have hp := List.pairwise_iff_getElem.1 h.ap
  rcases Nat.lt_or_gt_of_ne hne with q | q
  · exact hp i j hi hj q
  · rcases hp j i hj hi q with t | t
    · cases e : (A[i]).1.ownBlock with
      | none => exact .inl rfl
      | some g => exact .inr (by rw [t]; simp)
    · exact .inr (Ne.symm t)
end
/-- what a call may read: P the argument's box, X the lent trail's -/
structure Ks (w W : World) (P X : Nat) (vT vU vC vD vi vw vr vc : Value) (t us : List Ent) (zs ds : List Int) (t2 : List Ent) (z2 : List Int) : Prop where
  ri : RdE W vi t2
  rc : Rd W vc z2
  rT : RdE W vT t
  rU : RdE W vU us
  rC : Rd W vC zs
  rD : Rd W vD ds
  b : Below w.heap.size w W
  x0 : W.cell? ⟨X, 0, none⟩ = some vi
  x1 : W.cell? ⟨X, 1, none⟩ = some vw
  x2 : W.cell? ⟨X, 2, none⟩ = some vr
  p0 : W.cell? ⟨P, 0, none⟩ = some vT
  p1 : W.cell? ⟨P, 1, none⟩ = some vU
  p2 : W.cell? ⟨P, 2, none⟩ = some vC
  p3 : W.cell? ⟨P, 3, none⟩ = some vD
theorem Ks.below {w W W' : World} {P X : Nat} {vT vU vC vD vi vw vr vc : Value} {t us : List Ent} {zs ds : List Int} {t2 : List Ent} {z2 : List Int} (h : Ks w W P X vT vU vC vD vi vw vr vc t us zs ds t2 z2) (hb : Below W.heap.size W W') : Ks w W' P X vT vU vC vD vi vw vr vc t us zs ds t2 z2 := by
  have c : ∀ {a : Addr} {u : Value}, W.cell? a = some u → W'.cell? a = some u := fun {a u} hc => (hb.cell (World.block_lt_of_cell? W _ hc)).trans hc
  exact ⟨h.ri.below hb, h.rc.below hb, h.rT.below hb, h.rU.below hb, h.rC.below hb, h.rD.below hb, Below.step h.b hb, c h.x0, c h.x1, c h.x2, c h.p0, c h.p1, c h.p2, c h.p3⟩
theorem below_fx {Q : Nat → Prop} {B : Nat} {w W W' : World} (h : Below B w W) (hf : Fx Q W W') (hB : B ≤ W.heap.size) (hq : ∀ k, Q k → B ≤ k) : Below B w W' :=
  ⟨hf.os.trans h.os, hf.tape.trans h.tape, hf.output.trans h.output, Nat.le_trans h.size hf.size, fun k hk => (hf.block k (by omega) fun hQ => by have := hq k hQ; omega).trans (h.block k hk)⟩
theorem fx_of_grown {W W' : World} {row : Option Nat} (hg : W.grownBy W' row) : Fx (fun k => some k = row) W W' := (Fx.refl _ W).grown hg fun g e => e.symm
/-- the seven lists of a row, chosen among the answers, lie apart -/
theorem apart7 {B : Nat} {W : World} {A : List Cls} (h : An B W A) (hB : B ≤ W.heap.size) (hl : ∀ x ∈ A, x.2.length * 8 ≤ 140737488353280) (f : Nat → Nat) (hf : ∀ j, j < 7 → f j < A.length) (hi : ∀ i j, i < 7 → j < 7 → i ≠ j → f i ≠ f j) (vs : List Value) (hvs : vs = (List.range 7).map fun j => (A.getD (f j) (.slice none 0 0, [])).1) :
    Calls Try.prog 21 #[.slice (some ⟨W.heap.size, 0, none⟩) 7 7] (W.alloc (.cells vs.toArray 23)) fun e w' => e = .returned (.bool true) ∧ Below B W w' := by
  have hb := below_box W (.cells vs.toArray 23)
  have hat : ∀ j, (hj : j < 7) → A.getD (f j) (.slice none 0 0, []) = A[f j]'(hf j hj) := fun j hj => by
    rw [List.getD_eq_getElem?_getD, List.getElem?_eq_getElem (hf j hj)]; rfl
  subst hvs
  have hrow : (W.alloc (.cells ((List.range 7).map fun j => (A.getD (f j) (.slice none 0 0, [])).1).toArray 23)).ownsRow B 23 1 (.slice (some ⟨W.heap.size, 0, none⟩) 7 7) 7 ((List.range 7).map fun j => (A.getD (f j) (.slice none 0 0, [])).1) :=
    ⟨by simp, .inr ⟨W.heap.size, 7, _, rfl, hB, World.alloc_heap_new W _, Nat.le_refl _, by unfold maxLen; omega, by simp, List.take_of_length_le (by simp)⟩⟩
  refine (apart_q (fun _ => False) B _ 7 (fun j => (A.getD (f j) (.slice none 0 0, [])).1) (fun j => (A.getD (f j) (.slice none 0 0, [])).2.length) _ (Nat.le_trans hB hb.size) hrow (fun j hj => ⟨_, ?_, rfl⟩) (fun i j hi' hj hne => ?_) (by omega) (fun j hj => ?_) (fun _ _ _ _ h => h) (fun _ h => h.elim)).mono fun e w' ⟨h1, h2, _⟩ => ⟨h1, (hb.mono hB).trans h2⟩
  · show Own B _ (A.getD (f j) (.slice none 0 0, [])).1 (A.getD (f j) (.slice none 0 0, [])).2
    rw [hat j hj]
    exact (h.own _ (List.getElem_mem _)).below hb
  · show (A.getD (f i) (.slice none 0 0, [])).1.ownBlock = none ∨ (A.getD (f i) (.slice none 0 0, [])).1.ownBlock ≠ (A.getD (f j) (.slice none 0 0, [])).1.ownBlock
    rw [hat i hi', hat j hj]
    exact h.two (hf i hi') (hf j hj) (hi i j hi' hj hne)
  · show (A.getD (f j) (.slice none 0 0, [])).2.length * 8 ≤ _
    rw [hat j hj]
    exact hl _ (List.getElem_mem _)
end Go.Proofs.Ytgngdohhlhlcpaa
