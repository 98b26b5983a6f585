/-
  arena: Sweep and its function, walked.
  KEEP: set on app at below new trans refl start ap kept rd rds mono
-/
import Derived.Test.YtbhjpahieghepaaArS
import Derived.Maps.OwnSet
import Derived.Maps.OwnOps
import Derived.Maps.Views
set_option linter.unusedSimpArgs false
set_option linter.unusedVariables false
namespace Go.Proofs.Ytbhjpahieghepaa
open Go Go.RowKit Go.Maps

abbrev LvL := List (Int × List Int × Bool)
/-- the words of clauses that are moved together -/
def wordsL (L : LvL) : List Int := L.flatMap (fun x => hd0 x.2.1.length x.2.2 :: x.2.1)
theorem wordsL_snoc (L : LvL) (x : Int × List Int × Bool) : wordsL (L ++ [x]) = wordsL L ++ [hd0 x.2.1.length x.2.2] ++ x.2.1 := by simp [wordsL]
theorem went_snoc : ∀ (L : LvL) (x : Int × List Int × Bool) (q k : Int), went q (L ++ [x]) k = match went q L k with | some y => some y | none => if x.1 = k then some (q + (wordsL L).length) else none
  | [], x, q, k => by simp [went, wordsL]
  | y :: r, x, q, k => by
    rw [List.cons_append]
    unfold went
    split
    · rfl
    · rw [went_snoc r x]
      have e : q + 1 + (y.2.1.length : Int) + ((wordsL r).length : Int) = q + ((wordsL (y :: r)).length : Int) := by
        simp [wordsL]; omega
      rw [e]
theorem went_none : ∀ {L : LvL} {q k : Int}, (∀ x ∈ L, x.1 ≠ k) → went q L k = none
  | [], _, _, _ => rfl
  | y :: r, q, k, h => by
    unfold went
    rw [if_neg (h y List.mem_cons_self)]
    exact went_none (fun x hx => h x (List.mem_cons_of_mem _ hx))
/-- what the map says -/
def Tells {H : Type} (D : DataW H) (L : LvL) : Prop :=
  ∀ k : Int, Maps.has D (.int .i64 k) = (went 0 L k).isSome ∧ D.atKey (.int .i64 k) (.lit (.int .i64 0)) = .lit (.int .i64 ((went 0 L k).getD 0))
theorem Tells.nil {H : Type} : Tells (.map [] : DataW H) [] := fun k => ⟨rfl, rfl⟩
theorem Tells.snoc {H : Type} {D : DataW H} {L : LvL} {x : Int × List Int × Bool} (h : Tells D L) (hm : IsMap D) (hn : ∀ y ∈ L, y.1 ≠ x.1) : Tells (D.put (.int .i64 x.1) (.lit (.int .i64 (wordsL L).length))) (L ++ [x]) := by
  intro k
  rw [went_snoc]
  by_cases hk : k = x.1
  · subst hk
    rw [went_none hn]
    simp only [if_pos]
    exact ⟨has_put_same hm (by simp [WideAt.IsKeyLit]) _, by rw [atKey_put_same hm (by simp [WideAt.IsKeyLit])]; simp⟩
  · have hne : (Lit.int .i64 k) ≠ (Lit.int .i64 x.1) := fun e => hk (by injection e)
    rw [has_put_other hne, atKey_put_other hne, (h k).1, (h k).2]
    cases went 0 L k with
    | some q => exact ⟨rfl, rfl⟩
    | none =>
      have hk2 : ¬ x.1 = k := fun e => hk e.symm
      simp [hk2]

/-- a box with one thing in it -/
def Bx1 (W : World) (D : Nat) (t : TypeId) (x : Value) : Prop := W.heap[D]? = some (.cells #[x] t (0, 0))
theorem Bx1.c0 {W : World} {D : Nat} {t : TypeId} {x : Value} (h : Bx1 W D t x) : W.cell? ⟨D, 0, none⟩ = some x := by simp [World.cell?, show W.heap[D]? = _ from h]
theorem Bx1.lt {W : World} {D : Nat} {t : TypeId} {x : Value} (h : Bx1 W D t x) : D < W.heap.size := (Array.getElem?_eq_some_iff.1 h).1
theorem Bx1.kept {W W' : World} {row : Option Nat} {D : Nat} {t : TypeId} {x : Value} (h : Bx1 W D t x) (hg : W.grownBy W' row) (hne : some D ≠ row) : Bx1 W' D t x := (hg.block D h.lt hne).trans h
theorem Bx1.below {W W' : World} {D : Nat} {t : TypeId} {x : Value} (h : Bx1 W D t x) (hb : Below W.heap.size W W') : Bx1 W' D t x := (hb.block D h.lt).trans h
theorem Bx1.not_row {W : World} {D : Nat} {t e : TypeId} {x : Value} (h : Bx1 W D t x) (hte : t ≠ e) {base size k : Nat} {v : Value} {xs : List Value} (hr : W.ownsRow base e size v k xs) : some D ≠ v.ownBlock := fun e' => by
  rcases hr.2 with ⟨rfl, _⟩ | ⟨g, cap, cur, rfl, _, hh, _⟩
  · cases e'
  · cases e'
    rw [show W.heap[g]? = _ from h] at hh
    injection hh with hh
    injection hh with _ e2
    exact hte e2
abbrev mapR (w : World) (mb n : Nat) (D : DataW Unit) : Prop := w.ownsMap Try.prog 41 (plainElem Try.prog 41) mb n D
theorem mapR_obj {w : World} {b n : Nat} {D : DataW Unit} (h : mapR w b n D) : ∃ o : Obj, w.heap[b]? = some o ∧ o.isCells = false := by
  obtain ⟨es, cl, hh, _⟩ := h
  exact ⟨_, hh, rfl⟩
theorem mapR_row {w : World} {b n : Nat} {D : DataW Unit} (h : mapR w b n D) {base e s m : Nat} {v : Value} {xs : List Value} (hr : w.ownsRow base e s v m xs) : some b ≠ v.ownBlock := fun e' => by
  obtain ⟨o, ho, hc⟩ := mapR_obj h
  rcases hr.2 with ⟨rfl, _⟩ | ⟨g, cap, cur, rfl, _, hh, _⟩
  · cases e'
  · cases e'
    rw [hh] at ho; cases ho; cases hc
theorem mapR_box {w : World} {b n D0 : Nat} {D : DataW Unit} {t : TypeId} {x : Value} (h : mapR w b n D) (hb : Bx1 w D0 t x) : D0 ≠ b := by
  rintro rfl
  obtain ⟨o, ho, hc⟩ := mapR_obj h
  rw [show w.heap[D0]? = _ from hb] at ho; cases ho; cases hc
/-- where a Sweep stands -/
structure SwI (w W : World) (g0 mb m : Nat) (u ws : Value) (L : LvL) (i : Nat) : Prop where
  bel : Below w.heap.size w W
  hm : w.heap.size ≤ mb
  box : Bx1 W m 80 (.map (some mb))
  mp : ∃ D, mapR W mb i D ∧ Tells D (L.take i)
  own : Own w.heap.size W ws (wordsL (L.take i))
  row : W.ownsRow w.heap.size 73 2 u L.length (rowsC g0 L)
theorem SwI.below {w W W' : World} {g0 mb m i : Nat} {u ws : Value} {L : LvL} (h : SwI w W g0 mb m u ws L i) (hb : Below W.heap.size W W') : SwI w W' g0 mb m u ws L i := by
  obtain ⟨D, h1, h2⟩ := h.mp
  exact ⟨h.bel.trans (hb.mono h.bel.size), h.hm, h.box.below hb, ⟨D, World.ownsMap.kept h1 (grown_below hb) (by simp), h2⟩, h.own.below hb, World.ownsRow.kept h.row (grown_below hb) (one_or _)⟩
/-- the map is written, then the clause's words are laid behind the others -/
theorem SwI.step {w W W1 W2 W3 : World} {g0 mb m i : Nat} {u ws ws2 ws3 : Value} {L : LvL} {x : Int × List Int × Bool} {D : DataW Unit} (h : SwI w W g0 mb m u ws L i) (hD : mapR W mb i D) (hT : Tells D (L.take i)) (hx : L.take (i + 1) = L.take i ++ [x]) (hd : ∀ y ∈ L.take i, y.1 ≠ x.1)
    (h1 : mapR W1 mb (i + 1) (D.put (.int .i64 x.1) (.lit (.int .i64 (wordsL (L.take i)).length)))) (g1 : W.grownBy W1 (some mb))
    (g2 : Below W1.heap.size W1 W2) (own3 : Own w.heap.size W3 ws3 (wordsL (L.take (i + 1)))) (g3 : ∃ Wm wm, Ap W2 ws Wm wm ∧ Own w.heap.size Wm wm (wordsL (L.take i) ++ [hd0 x.2.1.length x.2.2]) ∧ Ap Wm wm W3 ws3) : SwI w W3 g0 mb m u ws3 L (i + 1) := by
  obtain ⟨Wm, wm, a1, o1, a2⟩ := g3
  have own1 : Own w.heap.size W1 ws (wordsL (L.take i)) := World.ownsRow.kept h.own g1 (.inr (fun e => mapR_row hD h.own e.symm))
  have row1 := World.ownsRow.kept h.row g1 (.inr (fun e => mapR_row hD h.row e.symm))
  have box1 := h.box.kept g1 (by simpa using mapR_box hD h.box)
  have bel1 : Below w.heap.size w W1 := h.bel.grown g1 h.bel.size (fun k e => by cases e; exact h.hm)
  have own2 := own1.below g2
  have row2 := World.ownsRow.kept row1 (grown_below g2) (one_or _)
  have box2 := box1.below g2
  have map2 : mapR W2 mb (i + 1) _ := World.ownsMap.kept h1 (grown_below g2) (by simp)
  have bel2 := bel1.trans (g2.mono bel1.size)
  have rowm := row_apart (by decide) row2 own2 a1.grown
  have boxm := box2.kept a1.grown (box2.not_row (by decide) own2)
  have mapm : mapR Wm mb (i + 1) _ := World.ownsMap.kept map2 a1.grown (mapR_row map2 own2)
  have belm : Below w.heap.size w Wm := bel2.grown a1.grown bel2.size (fun k e => (own2.lt k e).1)
  refine ⟨belm.grown a2.grown belm.size (fun k e => (o1.lt k e).1), h.hm, boxm.kept a2.grown (boxm.not_row (by decide) o1), ⟨_, World.ownsMap.kept mapm a2.grown (mapR_row mapm o1), ?_⟩, own3, row_apart (by decide) rowm o1 a2.grown⟩
  rw [hx]
  exact hT.snoc (World.ownsMap.isMap hD) hd

end Go.Proofs.Ytbhjpahieghepaa
