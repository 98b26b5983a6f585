/-
  depotkit.ApartRows, walked: lists of lists that lie apart (walks/genapr.py writes it).
  KEEP: len set on app at below new trans refl start ap kept rd rds mono row push put step side drew drewN mark weaken less store slice place cell lt prefix setOther
-/
import Derived.Test.YtlbpdiemanhfkaaDoorAparQW
set_option linter.unusedSimpArgs false
set_option linter.unusedVariables false
namespace Go.Proofs.YtlbpdiemanhfkaaDoor
open Go Go.RowKit Go.Shelf

attribute [local go_sem] Oper.semAt_some

/-- no block of numbers -/
def NI (w : World) (g : Nat) : Prop := ∀ c f, w.heap[g]? ≠ some (.cells c 3 f)
theorem row_ni {B n : Nat} {e : TypeId} {w : World} {v : Value} {xs : List Value} (h : w.ownsRow B e 1 v n xs) (hne : e ≠ 3) : ∀ g, v.ownBlock = some g → NI w g := fun g hg c f hc => by
  rcases h.2 with ⟨rfl, _⟩ | ⟨g', cap, cur, rfl, _, hh, _⟩
  · cases hg
  · cases hg
    rw [hh] at hc
    injection hc with hc
    injection hc with _ h2
    exact hne h2
theorem own_keptN {B : Nat} {w w' : World} {u : Value} {Z : List Int} {row : Option Nat} (h : Own B w u Z) (hg : w.grownBy w' row) (hn : ∀ g, row = some g → NI w g) : Own B w' u Z := by
  refine World.ownsRow.kept h hg ?_
  cases e : u.ownBlock with
  | none => exact .inl rfl
  | some b =>
    refine .inr fun e' => ?_
    rcases h.2 with ⟨rfl, _⟩ | ⟨g', cap, cur, rfl, _, hh, _⟩
    · cases e
    · cases e
      exact hn _ e'.symm _ _ hh
def OwnV (B : Nat) (w : World) (v : Value) (Y : List Value) : Prop := w.ownsRow B 25 1 v Y.length Y
theorem ownv_slice {B : Nat} {w : World} {x : Value} {Y : List Value} (h : OwnV B w x Y) : ∃ a c, x = .slice a Y.length c := row_slice h
/-- the first c bear their marks -/
def Mks (B : Nat) (w : World) (Y : List Value) (k c : Nat) : Prop := ∀ t, t < c → ∃ u, Y[t]? = some u ∧ Own B w u [mrk k t]
theorem Mks.kept {B k c : Nat} {w w' : World} {Y : List Value} {row : Option Nat} (h : Mks B w Y k c) (hg : w.grownBy w' row) (hn : ∀ g, row = some g → NI w g) : Mks B w' Y k c := fun t ht => by
  obtain ⟨u, h1, h2⟩ := h t ht
  exact ⟨u, h1, own_keptN h2 hg hn⟩
theorem Mks.snoc {B k c : Nat} {w : World} {Y : List Value} {u : Value} (h : Mks B w Y k c) (hY : Y.length = c) (hu : Own B w u [mrk k c]) : Mks B w (Y ++ [u]) k (c + 1) := fun t ht => by
  by_cases e : t < c
  · obtain ⟨x, h1, h2⟩ := h t e
    exact ⟨x, by rw [List.getElem?_append_left (by omega)]; exact h1, h2⟩
  · obtain rfl : t = c := by omega
    exact ⟨u, by rw [← hY, List.getElem?_concat_length], hu⟩
def Pmr (B : Nat) (w : World) (v : Value) (k n c : Nat) : Prop := ∃ Y : List Value, OwnV B w v Y ∧ Y.length = n ∧ Mks B w Y k c
section
variable {B : Nat} {w w' : World} {v : Value} {k n c : Nat}
theorem Pmr.slice (h : Pmr B w v k n c) : ∃ a cap, v = .slice a n cap := by
  obtain ⟨Y, ho, rfl, -⟩ := h
  exact ownv_slice ho
theorem Pmr.place {i : Nat} (h : Pmr B w v k n c) (hi : i < n) : ∃ g cap y, v = .slice (some ⟨g, 0, none⟩) n cap ∧ B ≤ g ∧ n ≤ cap ∧ w.cell? ⟨g, i, none⟩ = some y ∧ w.frozen? ⟨g, i, none⟩ = false := by
  obtain ⟨Y, ho, rfl, -⟩ := h
  obtain ⟨g, cap, e, h1, h2, h3⟩ := row_some ho (by omega)
  subst e
  exact ⟨g, cap, Y[i], rfl, (World.ownsRow.lt ho g rfl).1, h1, row_cell ho (List.getElem?_eq_getElem hi), row_fz ho _⟩
theorem Pmr.cell {i : Nat} (h : Pmr B w v k n c) (hi : i < n) (hc : i < c) : ∃ g cap gu cu, v = .slice (some ⟨g, 0, none⟩) n cap ∧ n ≤ cap ∧ w.cell? ⟨g, i, none⟩ = some (.slice (some ⟨gu, 0, none⟩) 1 cu) ∧ 1 ≤ cu ∧ w.cell? ⟨gu, 0, none⟩ = some (.int .i64 (mrk k i)) := by
  obtain ⟨Y, ho, rfl, hm⟩ := h
  obtain ⟨g, cap, e, h1, h2, h3⟩ := row_some ho (by omega)
  subst e
  obtain ⟨u, h4, h5⟩ := hm i hc
  obtain ⟨gu, cu, e, h6, -, -⟩ := row_some h5 (by simp)
  have e' : u = .slice (some ⟨gu, 0, none⟩) 1 cu := e
  subst e'
  exact ⟨g, cap, gu, cu, rfl, h1, row_cell ho h4, h6, row_cell h5 (j := 0) rfl⟩
theorem Pmr.store {g cap i : Nat} {u : Value} (h : Pmr B w (.slice (some ⟨g, 0, none⟩) n cap) k n i) (hi : i < n) (hu : Own B w u [mrk k i]) : Pmr B (w.setCell ⟨g, i, none⟩ u) (.slice (some ⟨g, 0, none⟩) n cap) k n (i + 1) := by
  obtain ⟨Y, ho, rfl, hm⟩ := h
  have hni := row_ni ho (by decide) g rfl
  have hg := grown_set w ⟨g, i, none⟩ u
  have hk : ∀ {x : Value} {Z : List Int}, Own B w x Z → Own B (w.setCell ⟨g, i, none⟩ u) x Z := fun h => own_keptN h hg (fun g' e => by simp at e; subst e; exact hni)
  refine ⟨Y.set i u, ?_, by rw [List.length_set], fun t ht => ?_⟩
  · unfold OwnV
    rw [List.length_set]
    exact own_cell (k := i) ho (by omega) u
  · by_cases e : i = t
    · subst e
      exact ⟨u, List.getElem?_set_self hi, hk hu⟩
    · obtain ⟨x, h1, h2⟩ := hm t (by omega)
      exact ⟨x, by rw [List.getElem?_set_ne e]; exact h1, hk h2⟩
theorem Pmr.setOther {g i : Nat} (h : Pmr B w v k n c) (hne : v.ownBlock ≠ some g) (hni : NI w g) (x : Value) : Pmr B (w.setCell ⟨g, i, none⟩ x) v k n c := by
  obtain ⟨Y, ho, hY, hm⟩ := h
  exact ⟨Y, ownsRow_setCell_other ho (a := ⟨g, i, none⟩) hne x, hY, hm.kept (grown_set w ⟨g, i, none⟩ x) (fun g' e => by simp at e; subst e; exact hni)⟩
theorem Pmr.kept {row : Option Nat} (h : Pmr B w v k n c) (hg : w.grownBy w' row) (hne : v.ownBlock = none ∨ v.ownBlock ≠ row) (hni : ∀ g, row = some g → NI w g) : Pmr B w' v k n c := by
  obtain ⟨Y, ho, hY, hm⟩ := h
  exact ⟨Y, World.ownsRow.kept ho hg hne, hY, hm.kept hg hni⟩
theorem Pmr.less {c' : Nat} (h : Pmr B w v k n c) (hc : c' ≤ c) : Pmr B w v k n c' := by
  obtain ⟨Y, ho, hY, hm⟩ := h
  exact ⟨Y, ho, hY, fun t ht => hm t (by omega)⟩
theorem Pmr.lt (h : Pmr B w v k n c) : ∀ b, v.ownBlock = some b → B ≤ b ∧ b < w.heap.size := by
  obtain ⟨Y, ho, hY, hm⟩ := h
  exact World.ownsRow.lt ho
end
theorem cell_one_newr {w : World} (o : Obj) (x : Value) (t : TypeId) : ∀ j y, [x][j]? = some y → ((w.alloc o).alloc (.cells #[x] t)).cell? ((⟨w.heap.size + 1, 0, none⟩ : Addr).add j) = some y := fun j y hy => by
  rw [Addr.add_lit]
  have hh := World.alloc_heap_new (w.alloc o) (.cells #[x] t)
  rw [World.size_alloc] at hh
  show (match ((w.alloc o).alloc (.cells #[x] t)).heap[w.heap.size + 1]? with | some (Obj.cells c elem frozen) => c[0 + j]? | x => none) = _
  rw [hh]
  simpa using hy
theorem no_row {w : World} : ∀ g, (none : Option Nat) = some g → NI w g := fun g e => by cases e
end Go.Proofs.YtlbpdiemanhfkaaDoor
