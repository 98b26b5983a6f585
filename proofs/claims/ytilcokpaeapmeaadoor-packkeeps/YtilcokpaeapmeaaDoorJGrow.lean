/-
  joined: Grow TrP
-/
import Derived.Test.YtilcokpaeapmeaaDoorJForms
import Derived.Maps.AppendAt
import Derived.OwnWalk
import Derived.RangeFuncBox
set_option linter.unusedSimpArgs false
set_option linter.unusedVariables false
namespace Go.Proofs.YtilcokpaeapmeaaDoor
open Go.RowKit

/-- a box of two cells -/
def Bx2 (W : World) (D : Nat) (t : TypeId) (x y : Value) : Prop := W.heap[D]? = some (.cells #[x, y] t (0, 0))
theorem Bx2.lt {W : World} {D : Nat} {t : TypeId} {x y : Value} (h : Bx2 W D t x y) : D < W.heap.size := (Array.getElem?_eq_some_iff.1 h).1
theorem Bx2.c0 {W : World} {D : Nat} {t : TypeId} {x y : Value} (h : Bx2 W D t x y) : W.cell? ⟨D, 0, none⟩ = some x := by simp [World.cell?, show W.heap[D]? = _ from h]
theorem Bx2.c1 {W : World} {D : Nat} {t : TypeId} {x y : Value} (h : Bx2 W D t x y) : W.cell? ⟨D, 1, none⟩ = some y := by simp [World.cell?, show W.heap[D]? = _ from h]
theorem Bx2.f0 {W : World} {D : Nat} {t : TypeId} {x y : Value} (h : Bx2 W D t x y) : W.frozen? ⟨D, 0, none⟩ = false := by simp [World.frozen?, show W.heap[D]? = _ from h]
theorem Bx2.f1 {W : World} {D : Nat} {t : TypeId} {x y : Value} (h : Bx2 W D t x y) : W.frozen? ⟨D, 1, none⟩ = false := by simp [World.frozen?, show W.heap[D]? = _ from h]
theorem Bx2.new (W : World) (t : TypeId) (x y : Value) : Bx2 (W.alloc (.cells #[x, y] t)) W.heap.size t x y := World.alloc_heap_new W _
theorem Bx2.kept {W W' : World} {row : Option Nat} {D : Nat} {t : TypeId} {x y : Value} (h : Bx2 W D t x y) (hg : W.grownBy W' row) (hne : some D ≠ row) : Bx2 W' D t x y := (hg.block D h.lt hne).trans h
theorem Bx2.below {W W' : World} {D : Nat} {t : TypeId} {x y : Value} (h : Bx2 W D t x y) (hb : Below W.heap.size W W') : Bx2 W' D t x y := (hb.block D h.lt).trans h
theorem Bx2.below' {B : Nat} {W W' : World} {D : Nat} {t : TypeId} {x y : Value} (h : Bx2 W D t x y) (hb : Below B W W') (hD : D < B) : Bx2 W' D t x y := (hb.block D hD).trans h
theorem Bx2.set0 {W : World} {D : Nat} {t : TypeId} {x y : Value} (h : Bx2 W D t x y) (x' : Value) : Bx2 (W.setCell ⟨D, 0, none⟩ x') D t x' y := by
  obtain ⟨hlt, hk⟩ := Array.getElem?_eq_some_iff.1 h
  show (W.heap.modify D _)[D]? = _
  rw [Array.getElem?_eq_getElem (by rw [Array.size_modify]; exact hlt), Array.getElem_modify_self, hk]
  rfl
theorem Bx2.set1 {W : World} {D : Nat} {t : TypeId} {x y : Value} (h : Bx2 W D t x y) (y' : Value) : Bx2 (W.setCell ⟨D, 1, none⟩ y') D t x y' := by
  obtain ⟨hlt, hk⟩ := Array.getElem?_eq_some_iff.1 h
  show (W.heap.modify D _)[D]? = _
  rw [Array.getElem?_eq_getElem (by rw [Array.size_modify]; exact hlt), Array.getElem_modify_self, hk]
  rfl
theorem grown_set (W : World) (a : Addr) (v : Value) : W.grownBy (W.setCell a v) (some a.block) :=
  ⟨rfl, rfl, rfl, (KeepsWalks.setCell W _ v).size, fun k _ hk => Below.heap_setCell _ _ _ k (fun e => hk (by rw [e]))⟩
theorem Bx2.not_row {W : World} {D : Nat} {t e : TypeId} {x y : Value} (h : Bx2 W D t x y) (hte : t ≠ e) {base size k : Nat} {v : Value} {xs : List Value} (hr : W.ownsRow base e size v k xs) : some D ≠ v.ownBlock := by
  rcases hr.2 with ⟨rfl, _⟩ | ⟨g, cap, cur, rfl, _, hgb, _⟩
  · simp [Value.ownBlock]
  · intro e'
    have e2 : D = g := by simpa [Value.ownBlock] using e'
    subst e2
    rw [show W.heap[D]? = _ from h] at hgb
    cases hgb
    exact hte rfl

theorem grown_below {w w' : World} (h : Below w.heap.size w w') : w.grownBy w' none := ⟨h.os, h.tape, h.output, h.size, fun k hk _ => h.block k hk⟩
theorem one_or (x : Option Nat) : x = none ∨ x ≠ none := Classical.em _
/-- rows of unlike types lie apart -/
theorem row_apart {base base' e e' s s' : Nat} {w w' : World} {v u : Value} {n n' : Nat} {xs xs' : List Value} (hne : e ≠ e') (h : w.ownsRow base e s v n xs) (hu : w.ownsRow base' e' s' u n' xs') (hg : w.grownBy w' u.ownBlock) : w'.ownsRow base e s v n xs := by
  refine ⟨h.1, ?_⟩
  rcases h.2 with hn | ⟨g, cap, cur, hv, hb', hh, r⟩
  · exact .inl hn
  · refine .inr ⟨g, cap, cur, hv, hb', ?_, r⟩
    rw [hg.block g (Array.getElem?_eq_some_iff.1 hh).1 (fun e => ?_)]
    · exact hh
    · rcases hu.2 with ⟨hn, _⟩ | ⟨g', cap', cur', hv', _, hh', _⟩
      · subst hn; cases e
      · subst hv'
        have e' : g' = g := by simpa [Value.ownBlock] using e.symm
        subst e'
        rw [hh] at hh'
        cases hh'
        exact hne rfl
theorem row_mono {base base' e s : Nat} {w : World} {v : Value} {n : Nat} {xs : List Value} (h : w.ownsRow base e s v n xs) (hb : base' ≤ base) : w.ownsRow base' e s v n xs := by
  refine ⟨h.1, ?_⟩
  rcases h.2 with hn | ⟨g, cap, cur, hv, hg, r⟩
  · exact .inl hn
  · exact .inr ⟨g, cap, cur, hv, Nat.le_trans hb hg, r⟩
theorem own_form {B : Nat} {w : World} {x : Value} {Y : List Int} (h : Own B w x Y) : ∃ a c, x = .slice a Y.length c := by
  rcases h.2 with ⟨rfl, hn⟩ | ⟨g, cap, cur, rfl, _⟩
  · exact ⟨none, 0, by rw [hn]⟩
  · exact ⟨_, cap, rfl⟩
theorem row_form {B K : Nat} {e : TypeId} {w : World} {x : Value} {xs : List Value} (h : w.ownsRow B e 1 x K xs) : ∃ a c, x = .slice a K c := by
  rcases h.2 with ⟨rfl, hn⟩ | ⟨g, cap, cur, rfl, _⟩
  · exact ⟨none, 0, by rw [hn]⟩
  · exact ⟨_, cap, rfl⟩

abbrev Cls := Value × List Int
def ApartC (L : List Cls) : Prop := L.Pairwise (fun x y => x.1.ownBlock = none ∨ x.1.ownBlock ≠ y.1.ownBlock)
/-- a row of lists that a call owns, each of its own and apart from the others -/
structure OwnR (B : Nat) (W : World) (s : Value) (L : List Cls) : Prop where
  row : W.ownsRow B 58 1 s L.length (L.map Prod.fst)
  own : ∀ x ∈ L, Own B W x.1 x.2
  ap : ApartC L
theorem OwnR.nil (B : Nat) (W : World) : OwnR B W (.slice none 0 0) [] := ⟨World.ownsRow_nil _ _ _ _, fun x hx => (by cases hx), List.Pairwise.nil⟩
theorem OwnR.grown {B : Nat} {W W' : World} {s : Value} {L : List Cls} (h : OwnR B W s L) (hg : W.grownBy W' none) : OwnR B W' s L :=
  ⟨World.ownsRow.kept h.row hg (one_or _), fun x hx => World.ownsRow.kept (h.own x hx) hg (one_or _), h.ap⟩
theorem OwnR.below {B : Nat} {W W' : World} {s : Value} {L : List Cls} (h : OwnR B W s L) (hb : Below W.heap.size W W') : OwnR B W' s L := h.grown (grown_below hb)
theorem OwnR.mono {B B' : Nat} {W : World} {s : Value} {L : List Cls} (h : OwnR B W s L) (hb : B' ≤ B) : OwnR B' W s L := ⟨row_mono h.row hb, fun x hx => (h.own x hx).mono hb, h.ap⟩
theorem OwnR.set {B : Nat} {W : World} {s : Value} {L : List Cls} {D : Nat} {t : TypeId} {x y : Value} (h : OwnR B W s L) (hb : Bx2 W D t x y) (h1 : t ≠ 58) (h2 : t ≠ 3) (o : Nat) (v : Value) : OwnR B (W.setCell ⟨D, o, none⟩ v) s L :=
  ⟨World.ownsRow.kept h.row (grown_set W ⟨D, o, none⟩ v) (.inr (hb.not_row h1 h.row).symm), fun q hq => World.ownsRow.kept (h.own q hq) (grown_set W ⟨D, o, none⟩ v) (.inr (hb.not_row h2 (h.own q hq)).symm), h.ap⟩
theorem ApartC.snoc {B S : Nat} {W W' : World} {L : List Cls} {u : Value} {z : List Int} (h : ApartC L) (ho : ∀ x ∈ L, Own B W x.1 x.2) (hu : Own S W' u z) (hS : W.heap.size ≤ S) : ApartC (L ++ [(u, z)]) := by
  unfold ApartC
  rw [List.pairwise_append]
  refine ⟨h, List.pairwise_singleton _ _, fun x hx y hy => ?_⟩
  obtain rfl : y = (u, z) := by simpa using hy
  cases e : x.1.ownBlock with
  | none => exact .inl rfl
  | some b =>
    refine .inr fun e' => ?_
    have := (World.ownsRow.lt (ho x hx) b e).2
    have := (World.ownsRow.lt hu b e'.symm).1
    omega
/-- one list more at the row's end -/
theorem OwnR.app {B : Nat} {W Wa w1 : World} {s s' u : Value} {L : List Cls} {z : List Int} (h : OwnR B W s L) (hga : W.grownBy Wa none) (own' : w1.ownsRow B 58 1 s' (L.length + 1) (L.map Prod.fst ++ [u])) (hg : Wa.grownBy w1 s.ownBlock)
    (hu : Own B W u z) (hap : ApartC (L ++ [(u, z)])) : OwnR B w1 s' (L ++ [(u, z)]) := by
  have rowa := World.ownsRow.kept h.row hga (one_or _)
  refine ⟨by simpa using own', fun x hx => ?_, hap⟩
  have o0 : Own B W x.1 x.2 := by
    rcases List.mem_append.1 hx with hx | hx
    · exact h.own x hx
    · obtain rfl : x = (u, z) := by simpa using hx
      exact hu
  exact row_apart (by decide) (World.ownsRow.kept o0 hga (one_or _)) rowa hg

def OwnF (B : Nat) (W : World) (s : Value) (css : List (List Int)) : Prop := ∃ L : List Cls, OwnR B W s L ∧ L.map Prod.snd = css
theorem OwnF.nil (B : Nat) (W : World) : OwnF B W (.slice none 0 0) [] := ⟨[], OwnR.nil _ _, rfl⟩
theorem OwnF.below {B : Nat} {W W' : World} {s : Value} {css : List (List Int)} (h : OwnF B W s css) (hb : Below W.heap.size W W') : OwnF B W' s css := by
  obtain ⟨L, h, e⟩ := h; exact ⟨L, h.below hb, e⟩
theorem OwnF.mono {B B' : Nat} {W : World} {s : Value} {css : List (List Int)} (h : OwnF B W s css) (hb : B' ≤ B) : OwnF B' W s css := by
  obtain ⟨L, h, e⟩ := h; exact ⟨L, h.mono hb, e⟩
theorem OwnR.rds {B : Nat} {W : World} {s : Value} {L : List Cls} (h : OwnR B W s L) (h24 : L.length * 24 ≤ 140737488351232) (h8 : ∀ x ∈ L, x.2.length * 8 ≤ 140737488351232) : Rds W s (L.map Prod.snd) := by
  rcases h.row.2 with ⟨rfl, hn⟩ | ⟨g, cap, cur, hv, hg, hh, hn, hm, hs, ht⟩
  · have : L = [] := List.length_eq_zero_iff.1 hn
    subst this; exact Rds.nil W
  · subst hv
    refine ⟨by simpa using h24, _, cap, by simp, by simpa using hn, hm, fun h => (by cases h), fun _ => ⟨g, 0, rfl, (Array.getElem?_eq_some_iff.1 hh).1, fun j hj => ?_⟩⟩
    have hj' : j < L.length := by simpa using hj
    refine ⟨L[j].1, ?_, ?_⟩
    · rw [Nat.zero_add, World.ownsRow.cellAt h.row j (by omega)]
      simp [hj']
    · have e : (L.map Prod.snd).getD j [] = L[j].2 := by simp [List.getD_eq_getElem?_getD, hj']
      rw [e]
      exact (h.own _ (List.getElem_mem hj')).rd (h8 _ (List.getElem_mem hj'))
theorem OwnF.rds {B : Nat} {W : World} {s : Value} {css : List (List Int)} (h : OwnF B W s css) (h24 : css.length * 24 ≤ 140737488351232) (h8 : ∀ z ∈ css, z.length * 8 ≤ 140737488351232) : Rds W s css := by
  obtain ⟨L, h, rfl⟩ := h
  exact h.rds (by simpa using h24) (fun x hx => h8 _ (List.mem_map_of_mem hx))

end Go.Proofs.YtilcokpaeapmeaaDoor
set_option linter.unusedSimpArgs false
set_option linter.unusedVariables false
namespace Go.Proofs.YtilcokpaeapmeaaDoor
open Go Go.RowKit

/-- a literal of the row: its level, its reason (-1: a decision) -/
structure Pl where
  lit : Int
  lev : Nat
  rea : Int
  deriving DecidableEq, Inhabited

def dcs (p : Pl) : Bool := decide (p.rea = -1)
def now (R : List Pl) : Nat := R.countP dcs
def vr (p : Pl) : Nat := p.lit.natAbs
def fnd (R : List Pl) (v : Nat) : Option Pl := R.find? (fun p => vr p == v)
def sg (l : Int) : Int := if l < 0 then -1 else 1
def valV (R : List Pl) (v : Nat) : Int := match fnd R v with | none => 0 | some p => sg p.lit
def levV (R : List Pl) (v : Nat) : Int := match fnd R v with | none => 0 | some p => p.lev
def rea0 (p : Pl) : Int := if p.rea = -1 then 0 else p.rea
def reaV (R : List Pl) (v : Nat) : Int := match fnd R v with | none => 0 | some p => rea0 p
def vals (n : Nat) (R : List Pl) : List Int := (List.range n).map fun i => valV R (i + 1)
def facts (n : Nat) (R : List Pl) : List Int := (List.range (n * 2)).map fun j => if j % 2 = 0 then levV R (j / 2 + 1) else reaV R (j / 2 + 1)
def decs : Nat → List Pl → List (Nat × Int)
  | _, [] => []
  | k, p :: R => if dcs p then (k, p.lit) :: decs (k + 1) R else decs (k + 1) R
def lvs (R : List Pl) : List (Nat × Int) := (0, 0) :: decs 0 R
def two (L : List (Nat × Int)) : List Value := L.flatMap fun q => [.int .i64 q.1, .int .i64 q.2]

structure okT (n : Nat) (R : List Pl) : Prop where
  nodup : (R.map vr).Nodup
  fit : ∀ p ∈ R, p.lit ≠ 0 ∧ vr p ≤ n
  rea : ∀ p ∈ R, -1 ≤ p.rea
  lev : ∀ i, (h : i < R.length) → R[i].lev = now (R.take (i + 1))
theorem okT.nil (n : Nat) : okT n [] := ⟨by simp, by simp, by simp, fun i h => by simp at h⟩
theorem okT.take {n : Nat} {R : List Pl} (h : okT n R) (m : Nat) : okT n (R.take m) :=
  ⟨by rw [List.map_take]; exact h.nodup.sublist (List.take_sublist _ _), fun p hp => h.fit p (List.mem_of_mem_take hp), fun p hp => h.rea p (List.mem_of_mem_take hp), fun i hi => by
    have h1 : i < m ∧ i < R.length := by rw [List.length_take] at hi; omega
    rw [List.getElem_take, h.lev i h1.2, List.take_take, Nat.min_eq_left (by omega)]⟩
theorem fnd_none {R : List Pl} {v : Nat} : fnd R v = none ↔ ∀ p ∈ R, vr p ≠ v := by
  unfold fnd; simp
theorem fnd_some {R : List Pl} {v : Nat} {p : Pl} (h : fnd R v = some p) : p ∈ R ∧ vr p = v := by
  unfold fnd at h
  exact ⟨List.mem_of_find?_eq_some h, by simpa using List.find?_some h⟩
theorem now_snoc (R : List Pl) (p : Pl) : now (R ++ [p]) = now R + (if dcs p then 1 else 0) := by
  simp [now, List.countP_append, List.countP_cons]
theorem okT.snoc {n : Nat} {R : List Pl} {p : Pl} (h : okT n R) (h0 : p.lit ≠ 0) (h1 : vr p ≤ n) (h2 : fnd R (vr p) = none) (h3 : -1 ≤ p.rea) (h4 : p.lev = now R + (if dcs p then 1 else 0)) : okT n (R ++ [p]) := by
  refine ⟨?_, ?_, ?_, ?_⟩
  · rw [List.map_append, List.nodup_append]
    refine ⟨h.nodup, by simp, ?_⟩
    intro a ha b hb
    obtain ⟨q, hq, rfl⟩ := List.mem_map.1 ha
    have : b = vr p := by simpa using hb
    subst this
    exact fnd_none.1 h2 q hq
  · intro q hq
    rcases List.mem_append.1 hq with hq | hq
    · exact h.fit q hq
    · have : q = p := by simpa using hq
      subst this; exact ⟨h0, h1⟩
  · intro q hq
    rcases List.mem_append.1 hq with hq | hq
    · exact h.rea q hq
    · have : q = p := by simpa using hq
      subst this; exact h3
  · intro i hi
    by_cases hlt : i < R.length
    · rw [List.getElem_append_left hlt, List.take_append_of_le_length (by omega)]
      exact h.lev i hlt
    · have : i = R.length := by simp at hi; omega
      subst this
      rw [List.getElem_append_right (Nat.le_refl _), List.take_of_length_le (by simp), now_snoc]
      simpa using h4

theorem fnd_snoc {R : List Pl} {p : Pl} {v : Nat} (h : fnd R (vr p) = none) : fnd (R ++ [p]) v = if v = vr p then some p else fnd R v := by
  unfold fnd at h ⊢
  rw [List.find?_append]
  by_cases hv : v = vr p
  · subst hv; rw [h]; simp
  · rw [if_neg hv]
    have : ([p].find? fun q => vr q == v) = none := by simp; exact fun e => hv e.symm
    rw [this]; simp
theorem vals_len (n : Nat) (R : List Pl) : (vals n R).length = n := by simp [vals]
theorem facts_len (n : Nat) (R : List Pl) : (facts n R).length = n * 2 := by simp [facts]
theorem vals_get {n : Nat} {R : List Pl} {i : Nat} (h : i < n) : (vals n R)[i]? = some (valV R (i + 1)) := by simp [vals, h]
theorem facts_get0 {n : Nat} {R : List Pl} {i : Nat} (h : i < n) : (facts n R)[i * 2]? = some (levV R (i + 1)) := by
  have h1 : i * 2 < n * 2 := by omega
  simp [facts, h1]
theorem facts_get1 {n : Nat} {R : List Pl} {i : Nat} (h : i < n) : (facts n R)[i * 2 + 1]? = some (reaV R (i + 1)) := by
  have h1 : i * 2 + 1 < n * 2 := by omega
  have h2 : (i * 2 + 1) % 2 = 1 := by omega
  have h3 : (i * 2 + 1) / 2 = i := by omega
  simp [facts, h1, h2, h3]
/-- behind a literal that is laid -/
theorem vals_snoc {n : Nat} {R : List Pl} {p : Pl} (h : fnd R (vr p) = none) (h0 : p.lit ≠ 0) : vals n (R ++ [p]) = (vals n R).set (vr p - 1) (sg p.lit) := by
  have hv : 0 < vr p := by unfold vr; omega
  refine List.ext_getElem (by simp [vals]) fun i h1 h2 => ?_
  rw [List.getElem_set]
  simp only [vals, List.getElem_map, List.getElem_range, valV]
  rw [fnd_snoc h]
  by_cases e : vr p - 1 = i
  · rw [if_pos (by omega), if_pos e]
  · rw [if_neg (by omega), if_neg e]
theorem facts_snoc {n : Nat} {R : List Pl} {p : Pl} (h : fnd R (vr p) = none) (h0 : p.lit ≠ 0) :
    facts n (R ++ [p]) = ((facts n R).set ((vr p - 1) * 2) p.lev).set ((vr p - 1) * 2 + 1) (rea0 p) := by
  have hv : 0 < vr p := by unfold vr; omega
  refine List.ext_getElem (by simp [facts]) fun i h1 h2 => ?_
  rw [List.getElem_set, List.getElem_set]
  simp only [facts, List.getElem_map, List.getElem_range, levV, reaV]
  rw [fnd_snoc h]
  by_cases e : (vr p - 1) * 2 + 1 = i
  · rw [if_pos e, if_neg (by omega), if_pos (by omega)]
  · rw [if_neg e]
    by_cases e2 : (vr p - 1) * 2 = i
    · rw [if_pos e2, if_pos (by omega), if_pos (by omega)]
    · rw [if_neg e2]
      by_cases e3 : i % 2 = 0
      · have e4 : ¬ i / 2 + 1 = vr p := by omega
        simp [e3, e4]
      · have e4 : ¬ i / 2 + 1 = vr p := by omega
        simp [e3, e4]
/-- behind one that is taken away -/
theorem vals_pop {n : Nat} {R : List Pl} {p : Pl} (h : fnd R (vr p) = none) (h0 : p.lit ≠ 0) : (vals n (R ++ [p])).set (vr p - 1) 0 = vals n R := by
  have hv : 0 < vr p := by unfold vr; omega
  refine List.ext_getElem (by simp [vals]) fun i h1 h2 => ?_
  rw [List.getElem_set]
  by_cases e : vr p - 1 = i
  · rw [if_pos e]
    have : i + 1 = vr p := by omega
    simp [vals, valV, this, h]
  · rw [if_neg e]
    simp only [vals, List.getElem_map, List.getElem_range, valV]
    rw [fnd_snoc h, if_neg (by omega)]
theorem facts_pop {n : Nat} {R : List Pl} {p : Pl} (h : fnd R (vr p) = none) (h0 : p.lit ≠ 0) :
    ((facts n (R ++ [p])).set ((vr p - 1) * 2) 0).set ((vr p - 1) * 2 + 1) 0 = facts n R := by
  have hv : 0 < vr p := by unfold vr; omega
  refine List.ext_getElem (by simp [facts]) fun i h1 h2 => ?_
  rw [List.getElem_set, List.getElem_set]
  by_cases e : (vr p - 1) * 2 + 1 = i
  · rw [if_pos e]
    have e1 : ¬ i % 2 = 0 := by omega
    have e2 : i / 2 + 1 = vr p := by omega
    simp [facts, e1, reaV, e2, h]
  · rw [if_neg e]
    by_cases e2 : (vr p - 1) * 2 = i
    · rw [if_pos e2]
      have e1 : i % 2 = 0 := by omega
      have e3 : i / 2 + 1 = vr p := by omega
      simp [facts, e1, levV, e3, h]
    · rw [if_neg e2]
      simp only [facts, List.getElem_map, List.getElem_range, levV, reaV]
      rw [fnd_snoc h]
      by_cases e3 : i % 2 = 0
      · have e4 : ¬ i / 2 + 1 = vr p := by omega
        simp [e3, e4]
      · have e4 : ¬ i / 2 + 1 = vr p := by omega
        simp [e3, e4]

theorem decs_append (k : Nat) (R S : List Pl) : decs k (R ++ S) = decs k R ++ decs (k + R.length) S := by
  induction R generalizing k with
  | nil => simp [decs]
  | cons p R ih =>
    simp only [List.cons_append, decs, ih, List.length_cons]
    split <;> simp [Nat.add_comm, Nat.add_left_comm]
theorem decs_len (k : Nat) (R : List Pl) : (decs k R).length = now R := by
  induction R generalizing k with
  | nil => rfl
  | cons p R ih =>
    simp only [decs, now, List.countP_cons] at ih ⊢
    split <;> simp_all
theorem lvs_len (R : List Pl) : (lvs R).length = now R + 1 := by simp [lvs, decs_len]
theorem lvs_snoc (R : List Pl) (p : Pl) : lvs (R ++ [p]) = lvs R ++ (if dcs p then [(R.length, p.lit)] else []) := by
  simp only [lvs, decs_append, decs, Nat.zero_add, List.cons_append]
theorem two_len (L : List (Nat × Int)) : (two L).length = L.length * 2 := by
  induction L with
  | nil => rfl
  | cons q L ih => simp only [two, List.flatMap_cons, List.length_append, List.length_cons, List.length_nil] at ih ⊢; omega
theorem two_append (L M : List (Nat × Int)) : two (L ++ M) = two L ++ two M := by simp [two]
theorem two_take (L : List (Nat × Int)) (k : Nat) : (two L).take (k * 2) = two (L.take k) := by
  induction L generalizing k with
  | nil => simp [two]
  | cons q L ih =>
    cases k with
    | zero => simp [two]
    | succ k =>
      have : (k + 1) * 2 = k * 2 + 1 + 1 := by omega
      rw [this]
      simp only [two, List.flatMap_cons, List.cons_append, List.nil_append, List.take_succ_cons] at ih ⊢
      rw [ih]
theorem two_get0 {L : List (Nat × Int)} {k : Nat} (h : k < L.length) : (two L)[k * 2]? = some (.int .i64 L[k].1) := by
  induction L generalizing k with
  | nil => simp at h
  | cons q L ih =>
    cases k with
    | zero => simp [two]
    | succ k =>
      have e : (k + 1) * 2 = k * 2 + 1 + 1 := by omega
      have := ih (k := k) (by simpa using h)
      rw [e]
      simp only [two, List.flatMap_cons, List.cons_append, List.nil_append, List.getElem?_cons_succ, List.getElem_cons_succ] at this ⊢
      exact this
theorem two_get1 {L : List (Nat × Int)} {k : Nat} (h : k < L.length) : (two L)[k * 2 + 1]? = some (.int .i64 L[k].2) := by
  induction L generalizing k with
  | nil => simp at h
  | cons q L ih =>
    cases k with
    | zero => simp [two]
    | succ k =>
      have e : (k + 1) * 2 = k * 2 + 1 + 1 := by omega
      have := ih (k := k) (by simpa using h)
      rw [e]
      simp only [two, List.flatMap_cons, List.cons_append, List.nil_append, List.getElem?_cons_succ, List.getElem_cons_succ] at this ⊢
      exact this

theorem two_at0 {L : List (Nat × Int)} {k a : Nat} {d : Int} (h : L[k]? = some (a, d)) : (two L)[k * 2]? = some (.int .i64 a) := by
  obtain ⟨h1, h2⟩ := List.getElem?_eq_some_iff.1 h
  rw [two_get0 h1, h2]
theorem two_at1 {L : List (Nat × Int)} {k a : Nat} {d : Int} (h : L[k]? = some (a, d)) : (two L)[k * 2 + 1]? = some (.int .i64 d) := by
  obtain ⟨h1, h2⟩ := List.getElem?_eq_some_iff.1 h
  rw [two_get1 h1, h2]
/-- where a level's decision stands -/
theorem decs_at {k : Nat} {R : List Pl} {j : Nat} (h : j < (decs k R).length) : ∃ i, ∃ hi : i < R.length, (decs k R)[j] = (k + i, R[i].lit) ∧ dcs R[i] = true ∧ now (R.take i) = j := by
  induction R generalizing k j with
  | nil => simp [decs] at h
  | cons p R ih =>
    by_cases hp : dcs p
    · simp only [decs, hp, if_true] at h ⊢
      cases j with
      | zero => exact ⟨0, by simp, by simp [hp, now]⟩
      | succ j =>
        obtain ⟨i, hi, h1, h2, h3⟩ := ih (k := k + 1) (j := j) (by simpa using h)
        refine ⟨i + 1, by simp; omega, ?_, by simpa using h2, ?_⟩
        · simp only [List.getElem_cons_succ]; rw [h1]; simp; omega
        · simp only [now, List.take_succ_cons, List.countP_cons, hp, if_true] at h3 ⊢; omega
    · simp only [decs, hp] at h ⊢
      obtain ⟨i, hi, h1, h2, h3⟩ := ih (k := k + 1) (j := j) (by simpa using h)
      refine ⟨i + 1, by simp; omega, ?_, by simpa using h2, ?_⟩
      · simp only [List.getElem_cons_succ]
        have : (if false = true then (k, p.lit) :: decs (k + 1) R else decs (k + 1) R) = decs (k + 1) R := by simp
        simp only [this, Bool.false_eq_true, if_false]
        rw [h1]; simp; omega
      · simp only [now, List.take_succ_cons, List.countP_cons, hp] at h3 ⊢; simpa using h3
theorem now_take_le {R : List Pl} (i j : Nat) (h : i ≤ j) : now (R.take i) ≤ now (R.take j) := by
  have : R.take i = (R.take j).take i := by rw [List.take_take, Nat.min_eq_left h]
  rw [this]; exact (List.take_sublist _ _).countP_le
/-- the row up to a level -/
def cutR (R : List Pl) (k : Nat) : List Pl := R.filter (fun p => decide (p.lev ≤ k))
theorem cut_take {n : Nat} {R : List Pl} (h : okT n R) {i : Nat} (hi : i < R.length) (hd : dcs R[i] = true) : cutR R (now (R.take i)) = R.take i := by
  have e : R.take i ++ R.drop i = R := List.take_append_drop i R
  have h1 : (R.take i).filter (fun p => decide (p.lev ≤ now (R.take i))) = R.take i := by
    rw [List.filter_eq_self]
    intro p hp
    obtain ⟨j, hj, rfl⟩ := List.getElem_of_mem hp
    have hj2 : j < i ∧ j < R.length := by rw [List.length_take] at hj; omega
    rw [List.getElem_take, h.lev j hj2.2]
    exact decide_eq_true (now_take_le _ _ (by omega))
  have h2 : (R.drop i).filter (fun p => decide (p.lev ≤ now (R.take i))) = [] := by
    rw [List.filter_eq_nil_iff]
    intro p hp
    obtain ⟨j, hj, rfl⟩ := List.getElem_of_mem hp
    have hj2 : i + j < R.length := by rw [List.length_drop] at hj; omega
    rw [List.getElem_drop, h.lev _ hj2]
    have h3 : now (R.take (i + 1)) ≤ now (R.take (i + j + 1)) := now_take_le _ _ (by omega)
    have h4 : now (R.take (i + 1)) = now (R.take i) + 1 := by
      rw [List.take_succ_eq_append_getElem hi, now_snoc, hd]; simp
    simp; omega
  have h5 : ∀ f : Pl → Bool, R.filter f = (R.take i).filter f ++ (R.drop i).filter f := fun f => by rw [← List.filter_append, e]
  unfold cutR
  rw [h5, h1, h2, List.append_nil]
theorem now_split (R : List Pl) (i : Nat) : now R = now (R.take i) + now (R.drop i) := by
  unfold now
  rw [← List.countP_append, List.take_append_drop]
theorem cut_full {n : Nat} {R : List Pl} (h : okT n R) {k : Nat} (hk : now R ≤ k) : cutR R k = R := by
  unfold cutR
  rw [List.filter_eq_self]
  intro p hp
  obtain ⟨j, hj, rfl⟩ := List.getElem_of_mem hp
  rw [h.lev j hj]
  have h1 : now (R.take (j + 1)) ≤ now R := (List.take_sublist _ _).countP_le
  exact decide_eq_true (by omega)
theorem lvs_take {R : List Pl} {i : Nat} : lvs (R.take i) = (lvs R).take (now (R.take i) + 1) := by
  have e : lvs R = lvs (R.take i) ++ decs (0 + (R.take i).length) (R.drop i) := by
    conv => lhs; rw [← List.take_append_drop i R]
    simp only [lvs, decs_append, List.cons_append]
  rw [e, List.take_append_of_le_length (by rw [lvs_len]; exact Nat.le_refl _), List.take_of_length_le (l := lvs (R.take i)) (by rw [lvs_len]; exact Nat.le_refl _)]
/-- where the level behind k begins -/
theorem lvs_next {n : Nat} {R : List Pl} (h : okT n R) {k : Nat} (hk : k < now R) : ∃ i, ∃ hi : i < R.length, ∃ hl : k + 1 < (lvs R).length, (lvs R)[k + 1] = (i, R[i].lit) ∧ cutR R k = R.take i ∧ now (R.take i) = k := by
  have hl : k + 1 < (lvs R).length := by rw [lvs_len]; omega
  obtain ⟨i, hi, h1, h2, h3⟩ := decs_at (k := 0) (R := R) (j := k) (by rw [decs_len]; exact hk)
  refine ⟨i, hi, hl, ?_, ?_, h3⟩
  · simp only [lvs, List.getElem_cons_succ]; rw [h1]; simp
  · rw [← h3]; exact cut_take h hi h2
theorem fnd_take {n : Nat} {R : List Pl} (h : okT n R) {i : Nat} (hi : i < R.length) : fnd (R.take i) (vr R[i]) = none := by
  rw [fnd_none]
  intro p hp e
  obtain ⟨j, hj, rfl⟩ := List.getElem_of_mem hp
  have hj2 : j < i ∧ j < R.length := by rw [List.length_take] at hj; omega
  rw [List.getElem_take] at e
  have := (List.nodup_iff_pairwise_ne.1 h.nodup)
  have h2 := List.pairwise_iff_getElem.1 this j i (by simpa using hj2.2) (by simpa using hi) hj2.1
  simp at h2
  exact h2 e
theorem nodup_len : ∀ (n : Nat) (l : List Nat), l.Nodup → (∀ v ∈ l, 0 < v ∧ v ≤ n) → l.length ≤ n
  | 0, l, _, h => by
    cases l with
    | nil => simp
    | cons a l => have := h a (by simp); omega
  | n + 1, l, hd, h => by
    have h1 := nodup_len n (l.filter (fun v => v != n + 1)) (hd.sublist List.filter_sublist) (fun v hv => by
      rw [List.mem_filter] at hv
      have := h v hv.1
      have h2 : v ≠ n + 1 := by simpa using hv.2
      omega)
    have h2 : l.length = (l.filter (fun v => v != n + 1)).length + l.count (n + 1) := by
      rw [← List.countP_eq_length_filter, List.count]
      have := List.length_eq_countP_add_countP (fun v => v != n + 1) (l := l)
      rw [this]
      congr 1
      apply List.countP_congr
      intro x _
      simp
    have h3 : l.count (n + 1) ≤ 1 := List.nodup_iff_count.1 hd (n + 1)
    omega
theorem okT.len {n : Nat} {R : List Pl} (h : okT n R) : R.length ≤ n := by
  have h1 := nodup_len n (R.map vr) h.nodup (fun v hv => by
    obtain ⟨p, hp, rfl⟩ := List.mem_map.1 hv
    have := h.fit p hp
    unfold vr at *; omega)
  simpa using h1
theorem now_le (R : List Pl) : now R ≤ R.length := List.countP_le_length
end Go.Proofs.YtilcokpaeapmeaaDoor
