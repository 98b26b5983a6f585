/-
  CnfSums: the models that were found, in a row that a box holds.
-/
import Derived.Test.YtbphbnfnolgkfaaDoorRMod
import Derived.Test.YtbphbnfnolgkfaaDoorCntW
import Derived.Test.YtbphbnfnolgkfaaDoorSameBs
import Derived.Test.YtbphbnfnolgkfaaDoorAwake
import Derived.Test.YtbphbnfnolgkfaaDoorCopyBs
set_option linter.unusedSimpArgs false
set_option linter.unusedVariables false
namespace Go.Proofs.YtbphbnfnolgkfaaDoor
open Go Go.RowKit Go.Shelf

theorem row_from {base e s : Nat} {w w' : World} {v : Value} {n : Nat} {xs : List Value} {row : Option Nat} (h : w.ownsRow base e s v n xs) (hg : w.grownBy w' row) (hr : ∀ r, row = some r → ∃ o : Obj, w.heap[r]? = some o ∧ o.isCells = false) : w'.ownsRow base e s v n xs := by
  refine ⟨h.1, ?_⟩
  rcases h.2 with hn | ⟨g, cap, cur, hv, hb, hh, r⟩
  · exact .inl hn
  · exact .inr ⟨g, cap, cur, hv, hb, (hg.block g (Array.getElem?_eq_some_iff.1 hh).1 (fun e => by
      obtain ⟨o, ho, hc⟩ := hr g e.symm
      rw [hh] at ho; cases ho; cases hc)).trans hh, r⟩
theorem row_at {base e s : Nat} {w w' : World} {v : Value} {n : Nat} {xs : List Value} {b : Nat} (h : w.ownsRow base e s v n xs) (hg : w.grownBy w' (some b)) (hb : b < base) : w'.ownsRow base e s v n xs :=
  World.ownsRow.kept h hg (.inr (fun e => by have := (h.lt b e).1; omega))
/-- the models that were found -/
structure Ac (D B : Nat) (W : World) (v : Value) (L : List Itb) : Prop where
  box : B1 W D v
  om : OwnM B W v L
def AcS (D B : Nat) (pre : List Itb) (W : World) : Prop := ∃ v L, L.map Prod.snd = pre.map Prod.snd ∧ Ac D B W v L
theorem Ac.below {D B : Nat} {W W' : World} {v : Value} {L : List Itb} (h : Ac D B W v L) (hb : Below W.heap.size W W') : Ac D B W' v L := ⟨h.box.below hb, h.om.below hb⟩
theorem Ac.own {D B : Nat} {W W' : World} {row : Option Nat} {v : Value} {L : List Itb} (h : Ac D B W v L) (hg : W.grownBy W' row) (hr : ∀ r, row = some r → ∃ o : Obj, W.heap[r]? = some o ∧ o.isCells = false) : Ac D B W' v L :=
  ⟨h.box.kept hg (by
    intro e
    obtain ⟨o, ho, hc⟩ := hr D e.symm
    obtain ⟨t, h⟩ := h.box
    rw [h] at ho; cases ho
    simp [Obj.isCells] at hc), row_from h.om.row hg hr, fun x hx => row_from (h.om.each x hx) hg hr⟩
theorem Ac.at {D B b : Nat} {W W' : World} {v : Value} {L : List Itb} (h : Ac D B W v L) (hg : W.grownBy W' (some b)) (hD : D ≠ b) (hb : b < B) : Ac D B W' v L :=
  ⟨h.box.kept hg (by intro e; exact hD (Option.some.inj e)), row_at h.om.row hg hb, fun x hx => row_at (h.om.each x hx) hg hb⟩
theorem Ac.app {D B : Nat} {W Wa w1 : World} {v v' u : Value} {m : List Bool} {L : List Itb} (h : Ac D B W v L) (hDB : D < B) (hga : W.grownBy Wa none) (hu : OwnB B W u m)
    (own' : w1.ownsRow B 32 1 v' (L.length + 1) (L.map Prod.fst ++ [u])) (hg : Wa.grownBy w1 v.ownBlock) :
    B1 w1 D v ∧ Ac D B (w1.setCell ⟨D, 0, none⟩ v') v' (L ++ [(u, m)]) ∧ KeepsOthers W (w1.setCell ⟨D, 0, none⟩ v') ∧ W.heap.size ≤ (w1.setCell ⟨D, 0, none⟩ v').heap.size ∧ (∀ k, k < W.heap.size → k ≠ D → k < B → (w1.setCell ⟨D, 0, none⟩ v').heap[k]? = W.heap[k]?) ∧
    (∀ (C : Nat) (w0 : World), C ≤ D → C ≤ W.heap.size → Below C w0 W → Below C w0 (w1.setCell ⟨D, 0, none⟩ v')) := by
  have rowa := World.ownsRow.kept h.om.row hga (one_or _)
  have hlt : ∀ b, v.ownBlock = some b → B ≤ b := fun b e => (World.ownsRow.lt rowa b e).1
  have bx1 : B1 w1 D v := (h.box.kept hga (by simp)).kept hg (fun e => by have := hlt D e.symm; omega)
  have oa := OwnM.app h.om hga hu own' hg
  have hgs : w1.grownBy (w1.setCell ⟨D, 0, none⟩ v') (some D) := grown_set w1 ⟨D, 0, none⟩ v'
  refine ⟨bx1, ⟨bx1.set v', row_at oa.row hgs hDB, fun x hx => row_at (oa.each x hx) hgs hDB⟩, ?_, ?_, ?_, ?_⟩
  · refine ((KeepsOthers.of_grownBy hga (fun _ _ e _ => by cases e)).trans (KeepsOthers.of_grownBy hg fun j o ej hj => ?_)).trans (KeepsOthers.setCell _ _ _)
    rcases rowa.2 with ⟨rfl, _⟩ | ⟨g, cap, cur, rfl, _, hgb, _⟩
    · cases ej
    · cases ej
      rw [hgb] at hj
      cases hj
      rfl
  · exact Nat.le_trans (Nat.le_trans hga.size hg.size) hgs.size
  · intro k hk hD hB
    have s1 := hga.size
    have s2 := hg.size
    rw [hgs.block k (by omega) (by intro e; exact hD (Option.some.inj e)), hg.block k (by omega) (fun e => by have := hlt k e.symm; omega), hga.block k hk (by simp)]
  · intro C w0 hC hCs hb
    have s1 := hga.size
    have s2 := hg.size
    exact ((hb.grown hga hCs (fun b e => by cases e)).grown hg (by omega) (fun b e => by have := hlt b e; omega)).grown hgs (by omega) (fun b e => by cases e; exact hC)

/-- each model that is found lies behind those that were -/
theorem next_more {n : Int} {css : List (List Int)} {ps : List (List Bool)} {m x : List Bool} (h : (ps ++ [m]) ++ [x] <+: modF n css) : num m < num x := by
  have hs : (modF n css).Pairwise (fun a b => num a < num b) := by
    unfold modF
    split
    · exact mods_sorted _ _
    · exact List.Pairwise.nil
  have hp : ((ps ++ [m]) ++ [x]).Pairwise (fun a b => num a < num b) := List.Pairwise.sublist h.sublist hs
  rw [List.pairwise_append] at hp
  exact hp.2.2 m (by simp) x (by simp)
theorem mem_modF {n : Int} {css : List (List Int)} {m : List Bool} : m ∈ modF n css → ((m.length : Int) = n ∧ m.length ≤ 16) ∧ (mdl n css m && satT m css) = true := by
  intro h
  unfold modF at h
  cases hf : frm n css
  · rw [hf] at h; simp at h
  rw [hf] at h
  by_cases hn : n ≤ 16
  · rw [decide_eq_true hn] at h
    have h0 : 0 ≤ n := by have := hf; simp only [frm, Bool.and_eq_true, decide_eq_true_eq] at this; exact this.1.1
    obtain ⟨h1, h2⟩ := mem_mods.1 (by simpa using h)
    have h3 : (m.length : Int) = n := by omega
    refine ⟨⟨h3, by omega⟩, ?_⟩
    unfold mdl
    rw [hf, h2, h3]; simp
  · rw [decide_eq_false hn] at h; simp at h
/-- a model that satisfies is among them -/
theorem in_modF {n : Int} {css : List (List Int)} {m : List Bool} (h16 : n ≤ 16) (h : (mdl n css m && satT m css) = true) : m ∈ modF n css := by
  rw [Bool.and_eq_true] at h
  unfold mdl at h
  have hf : frm n css = true := by cases hq : frm n css <;> simp [hq] at h ⊢
  have hl : (m.length : Int) = n := by have := h.1; rw [hf] at this; simpa using this
  unfold modF
  rw [hf, decide_eq_true h16]
  exact mem_mods.2 ⟨by omega, h.2⟩

end Go.Proofs.YtbphbnfnolgkfaaDoor
