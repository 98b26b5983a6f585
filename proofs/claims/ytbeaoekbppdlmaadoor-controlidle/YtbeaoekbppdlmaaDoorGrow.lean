/-
  A formula that a call builds: its box, its row of lists, all of the call's own and apart from one another.
-/
import Derived.Test.YtbeaoekbppdlmaaDoorShape
import Derived.Maps.AppendAt
import Derived.OwnWalk
import Derived.RangeFuncBox
set_option linter.unusedSimpArgs false
set_option linter.unusedVariables false
namespace Go.Proofs.YtbeaoekbppdlmaaDoor
open Go.RowKit

/-- a box of two cells -/
def Bx2 (W : World) (D : Nat) (t : TypeId) (x y : Value) : Prop := W.heap[D]? = some (.cells #[x, y] t (0, 0))
theorem Bx2.lt {W : World} {D : Nat} {t : TypeId} {x y : Value} (h : Bx2 W D t x y) : D < W.heap.size := (Array.getElem?_eq_some_iff.1 h).1
theorem Bx2.c0 {W : World} {D : Nat} {t : TypeId} {x y : Value} (h : Bx2 W D t x y) : W.cell? ⟨D, 0, none⟩ = some x := by simp [World.cell?, show W.heap[D]? = _ from h]
theorem Bx2.c1 {W : World} {D : Nat} {t : TypeId} {x y : Value} (h : Bx2 W D t x y) : W.cell? ⟨D, 1, none⟩ = some y := by simp [World.cell?, show W.heap[D]? = _ from h]
theorem Bx2.f0 {W : World} {D : Nat} {t : TypeId} {x y : Value} (h : Bx2 W D t x y) : W.frozen? ⟨D, 0, none⟩ = false := by simp [World.frozen?, show W.heap[D]? = _ from h]
theorem Bx2.f1 {W : World} {D : Nat} {t : TypeId} {x y : Value} (h : Bx2 W D t x y) : W.frozen? ⟨D, 1, none⟩ = false := by simp [World.frozen?, show W.heap[D]? = _ from h]
theorem Bx2.new (W : World) (t : TypeId) (x y : Value) : Bx2 (W.alloc (.cells #[x, y] t)) W.heap.size t x y := World.alloc_heap_new W _
theorem Bx2.kept {W W' : World} {row : Option Nat} {D : Nat} {t : TypeId} {x y : Value} (h : Bx2 W D t x y) (hg : W.grownBy W' row) (hne : some D ≠ row) : Bx2 W' D t x y := (hg.block D h.lt hne).trans h
theorem Bx2.below {W W' : World} {D : Nat} {t : TypeId} {x y : Value} (h : Bx2 W D t x y) (hb : Below W.heap.size W W') : Bx2 W' D t x y := (hb.block D h.lt).trans h
theorem Bx2.below' {B : Nat} {W W' : World} {D : Nat} {t : TypeId} {x y : Value} (h : Bx2 W D t x y) (hb : Below B W W') (hD : D < B) : Bx2 W' D t x y := (hb.block D hD).trans h
theorem Bx2.set0 {W : World} {D : Nat} {t : TypeId} {x y : Value} (h : Bx2 W D t x y) (x' : Value) : Bx2 (W.setCell ⟨D, 0, none⟩ x') D t x' y := by
  obtain ⟨hlt, hk⟩ := Array.getElem?_eq_some_iff.1 h
  show (W.heap.modify D _)[D]? = _
  rw [Array.getElem?_eq_getElem (by rw [Array.size_modify]; exact hlt), Array.getElem_modify_self, hk]
  rfl
theorem Bx2.set1 {W : World} {D : Nat} {t : TypeId} {x y : Value} (h : Bx2 W D t x y) (y' : Value) : Bx2 (W.setCell ⟨D, 1, none⟩ y') D t x y' := by
  obtain ⟨hlt, hk⟩ := Array.getElem?_eq_some_iff.1 h
  show (W.heap.modify D _)[D]? = _
  rw [Array.getElem?_eq_getElem (by rw [Array.size_modify]; exact hlt), Array.getElem_modify_self, hk]
  rfl
theorem grown_set (W : World) (a : Addr) (v : Value) : W.grownBy (W.setCell a v) (some a.block) :=
  ⟨rfl, rfl, rfl, (KeepsWalks.setCell W _ v).size, fun k _ hk => Below.heap_setCell _ _ _ k (fun e => hk (by rw [e]))⟩
theorem Bx2.not_row {W : World} {D : Nat} {t e : TypeId} {x y : Value} (h : Bx2 W D t x y) (hte : t ≠ e) {base size k : Nat} {v : Value} {xs : List Value} (hr : W.ownsRow base e size v k xs) : some D ≠ v.ownBlock := by
  rcases hr.2 with ⟨rfl, _⟩ | ⟨g, cap, cur, rfl, _, hgb, _⟩
  · simp [Value.ownBlock]
  · intro e'
    have e2 : D = g := by simpa [Value.ownBlock] using e'
    subst e2
    rw [show W.heap[D]? = _ from h] at hgb
    cases hgb
    exact hte rfl

theorem grown_below {w w' : World} (h : Below w.heap.size w w') : w.grownBy w' none := ⟨h.os, h.tape, h.output, h.size, fun k hk _ => h.block k hk⟩
theorem one_or (x : Option Nat) : x = none ∨ x ≠ none := Classical.em _
/-- rows of unlike types lie apart -/
theorem row_apart {base base' e e' s s' : Nat} {w w' : World} {v u : Value} {n n' : Nat} {xs xs' : List Value} (hne : e ≠ e') (h : w.ownsRow base e s v n xs) (hu : w.ownsRow base' e' s' u n' xs') (hg : w.grownBy w' u.ownBlock) : w'.ownsRow base e s v n xs := by
  refine ⟨h.1, ?_⟩
  rcases h.2 with hn | ⟨g, cap, cur, hv, hb', hh, r⟩
  · exact .inl hn
  · refine .inr ⟨g, cap, cur, hv, hb', ?_, r⟩
    rw [hg.block g (Array.getElem?_eq_some_iff.1 hh).1 (fun e => ?_)]
    · exact hh
    · rcases hu.2 with ⟨hn, _⟩ | ⟨g', cap', cur', hv', _, hh', _⟩
      · subst hn; cases e
      · subst hv'
        have e' : g' = g := by simpa [Value.ownBlock] using e.symm
        subst e'
        rw [hh] at hh'
        cases hh'
        exact hne rfl
theorem row_mono {base base' e s : Nat} {w : World} {v : Value} {n : Nat} {xs : List Value} (h : w.ownsRow base e s v n xs) (hb : base' ≤ base) : w.ownsRow base' e s v n xs := by
  refine ⟨h.1, ?_⟩
  rcases h.2 with hn | ⟨g, cap, cur, hv, hg, r⟩
  · exact .inl hn
  · exact .inr ⟨g, cap, cur, hv, Nat.le_trans hb hg, r⟩
theorem own_form {B : Nat} {w : World} {x : Value} {Y : List Int} (h : Own B w x Y) : ∃ a c, x = .slice a Y.length c := by
  rcases h.2 with ⟨rfl, hn⟩ | ⟨g, cap, cur, rfl, _⟩
  · exact ⟨none, 0, by rw [hn]⟩
  · exact ⟨_, cap, rfl⟩
theorem row_form {B K : Nat} {e : TypeId} {w : World} {x : Value} {xs : List Value} (h : w.ownsRow B e 1 x K xs) : ∃ a c, x = .slice a K c := by
  rcases h.2 with ⟨rfl, hn⟩ | ⟨g, cap, cur, rfl, _⟩
  · exact ⟨none, 0, by rw [hn]⟩
  · exact ⟨_, cap, rfl⟩

abbrev Cls := Value × List Int
def ApartC (L : List Cls) : Prop := L.Pairwise (fun x y => x.1.ownBlock = none ∨ x.1.ownBlock ≠ y.1.ownBlock)
/-- a row of lists that a call owns, each of its own and apart from the others -/
structure OwnR (B : Nat) (W : World) (s : Value) (L : List Cls) : Prop where
  row : W.ownsRow B 46 1 s L.length (L.map Prod.fst)
  own : ∀ x ∈ L, Own B W x.1 x.2
  ap : ApartC L
theorem OwnR.nil (B : Nat) (W : World) : OwnR B W (.slice none 0 0) [] := ⟨World.ownsRow_nil _ _ _ _, fun x hx => (by cases hx), List.Pairwise.nil⟩
theorem OwnR.grown {B : Nat} {W W' : World} {s : Value} {L : List Cls} (h : OwnR B W s L) (hg : W.grownBy W' none) : OwnR B W' s L :=
  ⟨World.ownsRow.kept h.row hg (one_or _), fun x hx => World.ownsRow.kept (h.own x hx) hg (one_or _), h.ap⟩
theorem OwnR.below {B : Nat} {W W' : World} {s : Value} {L : List Cls} (h : OwnR B W s L) (hb : Below W.heap.size W W') : OwnR B W' s L := h.grown (grown_below hb)
theorem OwnR.mono {B B' : Nat} {W : World} {s : Value} {L : List Cls} (h : OwnR B W s L) (hb : B' ≤ B) : OwnR B' W s L := ⟨row_mono h.row hb, fun x hx => (h.own x hx).mono hb, h.ap⟩
theorem OwnR.set {B : Nat} {W : World} {s : Value} {L : List Cls} {D : Nat} {t : TypeId} {x y : Value} (h : OwnR B W s L) (hb : Bx2 W D t x y) (h1 : t ≠ 46) (h2 : t ≠ 3) (o : Nat) (v : Value) : OwnR B (W.setCell ⟨D, o, none⟩ v) s L :=
  ⟨World.ownsRow.kept h.row (grown_set W ⟨D, o, none⟩ v) (.inr (hb.not_row h1 h.row).symm), fun q hq => World.ownsRow.kept (h.own q hq) (grown_set W ⟨D, o, none⟩ v) (.inr (hb.not_row h2 (h.own q hq)).symm), h.ap⟩
theorem ApartC.snoc {B S : Nat} {W W' : World} {L : List Cls} {u : Value} {z : List Int} (h : ApartC L) (ho : ∀ x ∈ L, Own B W x.1 x.2) (hu : Own S W' u z) (hS : W.heap.size ≤ S) : ApartC (L ++ [(u, z)]) := by
  unfold ApartC
  rw [List.pairwise_append]
  refine ⟨h, List.pairwise_singleton _ _, fun x hx y hy => ?_⟩
  obtain rfl : y = (u, z) := by simpa using hy
  cases e : x.1.ownBlock with
  | none => exact .inl rfl
  | some b =>
    refine .inr fun e' => ?_
    have := (World.ownsRow.lt (ho x hx) b e).2
    have := (World.ownsRow.lt hu b e'.symm).1
    omega
/-- one list more at the row's end -/
theorem OwnR.app {B : Nat} {W Wa w1 : World} {s s' u : Value} {L : List Cls} {z : List Int} (h : OwnR B W s L) (hga : W.grownBy Wa none) (own' : w1.ownsRow B 46 1 s' (L.length + 1) (L.map Prod.fst ++ [u])) (hg : Wa.grownBy w1 s.ownBlock)
    (hu : Own B W u z) (hap : ApartC (L ++ [(u, z)])) : OwnR B w1 s' (L ++ [(u, z)]) := by
  have rowa := World.ownsRow.kept h.row hga (one_or _)
  refine ⟨by simpa using own', fun x hx => ?_, hap⟩
  have o0 : Own B W x.1 x.2 := by
    rcases List.mem_append.1 hx with hx | hx
    · exact h.own x hx
    · obtain rfl : x = (u, z) := by simpa using hx
      exact hu
  exact row_apart (by decide) (World.ownsRow.kept o0 hga (one_or _)) rowa hg

def OwnF (B : Nat) (W : World) (s : Value) (css : List (List Int)) : Prop := ∃ L : List Cls, OwnR B W s L ∧ L.map Prod.snd = css
theorem OwnF.nil (B : Nat) (W : World) : OwnF B W (.slice none 0 0) [] := ⟨[], OwnR.nil _ _, rfl⟩
theorem OwnF.below {B : Nat} {W W' : World} {s : Value} {css : List (List Int)} (h : OwnF B W s css) (hb : Below W.heap.size W W') : OwnF B W' s css := by
  obtain ⟨L, h, e⟩ := h; exact ⟨L, h.below hb, e⟩
theorem OwnF.mono {B B' : Nat} {W : World} {s : Value} {css : List (List Int)} (h : OwnF B W s css) (hb : B' ≤ B) : OwnF B' W s css := by
  obtain ⟨L, h, e⟩ := h; exact ⟨L, h.mono hb, e⟩
theorem OwnR.rds {B : Nat} {W : World} {s : Value} {L : List Cls} (h : OwnR B W s L) (h24 : L.length * 24 ≤ 140737488351232) (h8 : ∀ x ∈ L, x.2.length * 8 ≤ 140737488351232) : Rds W s (L.map Prod.snd) := by
  rcases h.row.2 with ⟨rfl, hn⟩ | ⟨g, cap, cur, hv, hg, hh, hn, hm, hs, ht⟩
  · have : L = [] := List.length_eq_zero_iff.1 hn
    subst this; exact Rds.nil W
  · subst hv
    refine ⟨by simpa using h24, _, cap, by simp, by simpa using hn, hm, fun h => (by cases h), fun _ => ⟨g, 0, rfl, (Array.getElem?_eq_some_iff.1 hh).1, fun j hj => ?_⟩⟩
    have hj' : j < L.length := by simpa using hj
    refine ⟨L[j].1, ?_, ?_⟩
    · rw [Nat.zero_add, World.ownsRow.cellAt h.row j (by omega)]
      simp [hj']
    · have e : (L.map Prod.snd).getD j [] = L[j].2 := by simp [List.getD_eq_getElem?_getD, hj']
      rw [e]
      exact (h.own _ (List.getElem_mem hj')).rd (h8 _ (List.getElem_mem hj'))
theorem OwnF.rds {B : Nat} {W : World} {s : Value} {css : List (List Int)} (h : OwnF B W s css) (h24 : css.length * 24 ≤ 140737488351232) (h8 : ∀ z ∈ css, z.length * 8 ≤ 140737488351232) : Rds W s css := by
  obtain ⟨L, h, rfl⟩ := h
  exact h.rds (by simpa using h24) (fun x hx => h8 _ (List.mem_map_of_mem hx))

end Go.Proofs.YtbeaoekbppdlmaaDoor
