/-
  CnfKeepsModels: the models that a sequence gives, collected in a row that a box holds: each in a block of its own.
  KEEP: other step box obw set on app at below new trans refl kept rd rds mono own row cells lt box from cell low next zero turn item each
-/
import Derived.Test.YtfklgfdkpmfdnaaDoorCmP
import Derived.Test.YtfklgfdkpmfdnaaDoorJAparQ
import Derived.OwnWalkIn
set_option linter.unusedSimpArgs false
set_option linter.unusedVariables false
namespace Go.Proofs.YtfklgfdkpmfdnaaDoor
open Go Go.RowKit Go.Shelf

theorem rowz_from {base e s : Nat} {w w' : World} {v : Value} {n : Nat} {xs : List Value} {row : Option Nat} (h : w.ownsRow base e s v n xs) (hg : w.grownBy w' row) (hr : ∀ r, row = some r → ∃ o : Obj, w.heap[r]? = some o ∧ o.isCells = false) : w'.ownsRow base e s v n xs := by
  refine ⟨h.1, ?_⟩
  rcases h.2 with hn | ⟨g, cap, cur, hv, hb, hh, r⟩
  · exact .inl hn
  · exact .inr ⟨g, cap, cur, hv, hb, (hg.block g (Array.getElem?_eq_some_iff.1 hh).1 (fun e => by
      obtain ⟨o, ho, hc⟩ := hr g e.symm
      rw [hh] at ho; cases ho; cases hc)).trans hh, r⟩
theorem rowz_at {base e s : Nat} {w w' : World} {v : Value} {n : Nat} {xs : List Value} {b : Nat} (h : w.ownsRow base e s v n xs) (hg : w.grownBy w' (some b)) (hb : b < base) : w'.ownsRow base e s v n xs :=
  World.ownsRow.kept h hg (.inr (fun e => by have := (h.lt b e).1; omega))
/-- a model in a block of its own -/
def Mg (B : Nat) (W : World) (x : Itb) (g : Nat) : Prop := B ≤ g ∧ x.1 = .slice (some ⟨g, 0, none⟩) x.2.length 16 ∧ x.2.length ≤ 16 ∧ Bt W g (x.2 ++ List.replicate (16 - x.2.length) false)
theorem Mg.lt {B : Nat} {W : World} {x : Itb} {g : Nat} (h : Mg B W x g) : g < W.heap.size := (Array.getElem?_eq_some_iff.1 h.2.2.2.1).1
theorem Mg.kept {B : Nat} {W W' : World} {x : Itb} {g : Nat} (h : Mg B W x g) (hb : W'.heap[g]? = W.heap[g]?) : Mg B W' x g := ⟨h.1, h.2.1, h.2.2.1, hb.trans h.2.2.2.1, h.2.2.2.2⟩
theorem Mg.obw {B : Nat} {W : World} {x : Itb} {g : Nat} (h : Mg B W x g) : Obw B W x.1 x.2 := by
  obtain ⟨h1, h2, h3, h4, h5⟩ := h
  refine ⟨by simp, .inr ⟨g, 16, _, _, h2, h1, h4, by decide, h3, by unfold maxLen; omega, bc_size h5, ?_⟩⟩
  simp [bc]
theorem Mg.rd {B : Nat} {W : World} {x : Itb} {g : Nat} (h : Mg B W x g) : RdB W x.1 x.2 := by
  obtain ⟨h1, h2, h3, h4⟩ := h
  rw [h2]; exact h4.rd
/-- the models that were found; N: a block that none of them lies in -/
structure Am (D B N : Nat) (W : World) (v : Value) (L : List Itb) : Prop where
  box : B1 W D v
  row : W.ownsRow B 32 1 v L.length (L.map Prod.fst)
  each : ∀ x ∈ L, ∃ g, Mg B W x g
  ap : L.Pairwise (fun x y => x.1.ownBlock ≠ y.1.ownBlock)
  nv : v.ownBlock ≠ some N
  nx : ∀ x ∈ L, x.1.ownBlock ≠ some N
theorem Am.below {D B N : Nat} {W W' : World} {v : Value} {L : List Itb} (h : Am D B N W v L) (hb : Below W.heap.size W W') : Am D B N W' v L :=
  ⟨h.box.below hb, World.ownsRow.kept h.row (grown_below hb) (none_or _), fun x hx => by obtain ⟨g, m⟩ := h.each x hx; exact ⟨g, m.kept (hb.block _ m.lt)⟩, h.ap, h.nv, h.nx⟩
theorem Am.own {D B N : Nat} {W W' : World} {row : Option Nat} {v : Value} {L : List Itb} (h : Am D B N W v L) (hg : W.grownBy W' row) (hr : ∀ r, row = some r → ∃ o : Obj, W.heap[r]? = some o ∧ o.isCells = false) : Am D B N W' v L :=
  ⟨h.box.kept hg (by
    intro e
    obtain ⟨o, ho, hc⟩ := hr D e.symm
    obtain ⟨t, h⟩ := h.box
    rw [h] at ho; cases ho
    simp [Obj.isCells] at hc), rowz_from h.row hg hr, fun x hx => by
      obtain ⟨g, m⟩ := h.each x hx
      refine ⟨g, m.kept (hg.block _ m.lt (fun e => ?_))⟩
      obtain ⟨o, ho, hc⟩ := hr g e.symm
      rw [m.2.2.2.1] at ho; cases ho
      simp [Obj.isCells] at hc, h.ap, h.nv, h.nx⟩
theorem Am.at {D B N b : Nat} {W W' : World} {v : Value} {L : List Itb} (h : Am D B N W v L) (hg : W.grownBy W' (some b)) (hD : D ≠ b) (hb : b < B ∨ b = N) : Am D B N W' v L := by
  refine ⟨h.box.kept hg (by intro e; exact hD (Option.some.inj e)), World.ownsRow.kept h.row hg (.inr (fun e => ?_)), fun x hx => ?_, h.ap, h.nv, h.nx⟩
  · rcases hb with hb | hb
    · have := (h.row.lt b e).1; omega
    · subst hb; exact h.nv e
  · obtain ⟨g, m⟩ := h.each x hx
    refine ⟨g, m.kept (hg.block _ m.lt (fun e => ?_))⟩
    have e1 : g = b := Option.some.inj e
    rcases hb with hb | hb
    · have := m.1; omega
    · subst hb; exact h.nx x hx (by rw [m.2.1, ← e1]; rfl)
theorem Am.lt {D B N : Nat} {W : World} {v : Value} {L : List Itb} (h : Am D B N W v L) : (∀ b, v.ownBlock = some b → b < W.heap.size) ∧ ∀ x ∈ L, ∀ b, x.1.ownBlock = some b → b < W.heap.size :=
  ⟨fun b e => (h.row.lt b e).2, fun x hx b e => by obtain ⟨g, m⟩ := h.each x hx; rw [m.2.1] at e; cases e; exact m.lt⟩
theorem Am.other {D B N N' : Nat} {W : World} {v : Value} {L : List Itb} (h : Am D B N W v L) (hN : W.heap.size ≤ N') : Am D B N' W v L :=
  ⟨h.box, h.row, h.each, h.ap, fun e => by have := h.lt.1 _ e; omega, fun x hx e => by have := h.lt.2 x hx _ e; omega⟩
theorem Am.app {D B N : Nat} {W Wa w1 : World} {v v' : Value} {x : Itb} {L : List Itb} (h : Am D B N W v L) (hDB : D < B) (hNW : N < W.heap.size) (hga : W.grownBy Wa none) {g : Nat} (hu : Mg B W x g) (hgN : g ≠ N) (hS : ∀ y ∈ L, ∀ b, y.1.ownBlock = some b → b < g)
    (own' : w1.ownsRow B 32 1 v' (L.length + 1) (L.map Prod.fst ++ [x.1]))
    (h2 : (∃ g cap, v = .slice (some ⟨g, 0, none⟩) L.length cap ∧ v' = .slice (some ⟨g, 0, none⟩) (L.length + 1) cap ∧ Wa.grownBy w1 (some g)) ∨ (w1.ownsRow Wa.heap.size 32 1 v' (L.length + 1) (L.map Prod.fst ++ [x.1]) ∧ Wa.grownBy w1 none)) :
    B1 w1 D v ∧ Am D B N (w1.setCell ⟨D, 0, none⟩ v') v' (L ++ [x]) ∧ KeepsOthers W (w1.setCell ⟨D, 0, none⟩ v') ∧ W.heap.size ≤ (w1.setCell ⟨D, 0, none⟩ v').heap.size ∧ (∀ k, k < W.heap.size → k ≠ D → (k < B ∨ k = N) → (w1.setCell ⟨D, 0, none⟩ v').heap[k]? = W.heap[k]?) ∧
    (∀ (C : Nat) (w0 : World), C ≤ D → C ≤ W.heap.size → Below C w0 W → Below C w0 (w1.setCell ⟨D, 0, none⟩ v')) := by
  have rowa := World.ownsRow.kept h.row hga (none_or _)
  have hlt : ∀ b, v.ownBlock = some b → B ≤ b := fun b e => (World.ownsRow.lt rowa b e).1
  have hg : Wa.grownBy w1 v.ownBlock := by
    rcases h2 with ⟨g, cap, e1, _, hg⟩ | ⟨_, hg⟩
    · rw [e1]; exact hg
    · exact ⟨hg.os, hg.tape, hg.output, hg.size, fun k hk _ => hg.block k hk (by simp)⟩
  have hnv : v'.ownBlock ≠ some N := by
    rcases h2 with ⟨g, cap, e1, e2, _⟩ | ⟨ho, _⟩
    · rw [e2]; have := h.nv; rw [e1] at this; exact this
    · intro e
      have h5 := (World.ownsRow.lt ho N e).1
      have := hga.size
      omega
  have bx1 : B1 w1 D v := (h.box.kept hga (by simp)).kept hg (fun e => by have := hlt D e.symm; omega)
  have hgs : w1.grownBy (w1.setCell ⟨D, 0, none⟩ v') (some D) := grown_set w1 ⟨D, 0, none⟩ v'
  have ap1 : ∀ {y : Itb} {b : Nat}, Mg B W y b → Mg B (w1.setCell ⟨D, 0, none⟩ v') y b := fun {y b} m => by
    have e1 : Wa.heap[b]? = W.heap[b]? := hga.block b m.lt (by simp)
    have e2 : w1.heap[b]? = Wa.heap[b]? := hg.block b (Nat.lt_of_lt_of_le m.lt hga.size) (fun e => by
      have h1 := block_apartB (w := Wa) rowa (Mg.obw (m.kept e1)) (by rw [m.2.1]; rfl)
      exact h1 e.symm)
    have e3 : (w1.setCell ⟨D, 0, none⟩ v').heap[b]? = w1.heap[b]? := hgs.block b (Nat.lt_of_lt_of_le m.lt (Nat.le_trans hga.size hg.size)) (fun e => by have e4 : b = D := Option.some.inj e; have := m.1; omega)
    exact m.kept (e3.trans (e2.trans e1))
  have hxb : x.1.ownBlock = some g := by rw [hu.2.1]; rfl
  refine ⟨bx1, ⟨bx1.set v', by rw [List.length_append, List.map_append]; exact rowz_at own' hgs hDB, fun y hy => ?_, ?_, hnv, fun y hy => ?_⟩, ?_, ?_, ?_, ?_⟩
  · rcases List.mem_append.1 hy with hy | hy
    · obtain ⟨b, m⟩ := h.each y hy
      exact ⟨b, ap1 m⟩
    · obtain rfl : y = x := by simpa using hy
      exact ⟨g, ap1 hu⟩
  · refine List.pairwise_append.2 ⟨h.ap, List.pairwise_singleton _ _, fun y hy z hz => ?_⟩
    obtain rfl : z = x := by simpa using hz
    obtain ⟨b, m⟩ := h.each y hy
    have hb : y.1.ownBlock = some b := by rw [m.2.1]; rfl
    rw [hb, hxb]
    intro e
    have := hS y hy b hb
    have := Option.some.inj e
    omega
  · rcases List.mem_append.1 hy with hy | hy
    · exact h.nx y hy
    · obtain rfl : y = x := by simpa using hy
      rw [hxb]; intro e; exact hgN (Option.some.inj e)
  · refine ((KeepsOthers.of_grownBy hga (fun _ _ e _ => by cases e)).trans (KeepsOthers.of_grownBy hg fun j o ej hj => ?_)).trans (KeepsOthers.setCell _ _ _)
    exact row_cells rowa j o ej hj
  · exact Nat.le_trans (Nat.le_trans hga.size hg.size) hgs.size
  · intro k hk hD hB
    have s1 := hga.size
    have s2 := hg.size
    rw [hgs.block k (by omega) (by intro e; exact hD (Option.some.inj e)), hg.block k (by omega) (fun e => by
      rcases hB with hB | hB
      · have := hlt k e.symm; omega
      · subst hB; exact h.nv e.symm), hga.block k hk (by simp)]
  · intro C w0 hC hCs hb
    have s1 := hga.size
    have s2 := hg.size
    refine ((hb.grown hga hCs (fun k e => by cases e)).grown hg (Nat.le_trans hCs s1) (fun k e => by have := hlt k e; omega)).grown hgs (by omega) (fun k e => by have e5 : D = k := Option.some.inj e; omega)
/-- all that stands between two rounds -/
structure Mx (w10 w12 : World) (N : Nat) (v : Value) (L : List Itb) (cnt : Int) (W : World) : Prop where
  bel : Below w10.heap.size w10 W
  mid : Mid (w10.heap.size + 2) w12.heap.size w12 W
  am : Am w10.heap.size w12.heap.size N W v L
  nb : W.heap[w10.heap.size + 1]? = some (.cells #[.int .i64 cnt] 3 (0, 0))
  s1 : w10.heap.size + 2 ≤ w12.heap.size
  sn : w12.heap.size ≤ N
theorem Mx.lt {w10 w12 : World} {N : Nat} {v : Value} {L : List Itb} {cnt : Int} {W : World} (h : Mx w10 w12 N v L cnt W) : w12.heap.size ≤ W.heap.size := h.mid.size
theorem Mx.own {w10 w12 : World} {N : Nat} {v : Value} {L : List Itb} {cnt : Int} {W W' : World} {row : Option Nat} (h : Mx w10 w12 N v L cnt W) (hg : W.grownBy W' row) (hr : ∀ r, row = some r → w12.heap.size ≤ r ∧ ∃ o : Obj, W.heap[r]? = some o ∧ o.isCells = false) : Mx w10 w12 N v L cnt W' := by
  have hs := h.s1
  have hl := h.lt
  exact ⟨h.bel.grown hg h.bel.size (fun r e => by have := (hr r e).1; omega), ⟨Nat.le_trans h.mid.size hg.size, fun k h1 h2 => (hg.block k (by omega) (fun e => by have := (hr k e.symm).1; omega)).trans (h.mid.block k h1 h2)⟩, h.am.own hg (fun r e => (hr r e).2), (hg.block _ (by omega) (fun e => by have := (hr _ e.symm).1; omega)).trans h.nb, h.s1, h.sn⟩
theorem Mx.box {w10 w12 : World} {N : Nat} {v : Value} {L : List Itb} {cnt : Int} {W W' : World} (h : Mx w10 w12 N v L cnt W) (hg : W.grownBy W' (some N)) : Mx w10 w12 N v L cnt W' := by
  have hs := h.s1
  have hn := h.sn
  have hl := h.lt
  exact ⟨h.bel.grown hg h.bel.size (fun r e => by cases e; omega), ⟨Nat.le_trans h.mid.size hg.size, fun k h1 h2 => (hg.block k (by omega) (fun e => by have e1 : k = N := Option.some.inj e; omega)).trans (h.mid.block k h1 h2)⟩, h.am.at hg (by omega) (.inr rfl), (hg.block _ (by omega) (fun e => by have e1 : w10.heap.size + 1 = N := Option.some.inj e; omega)).trans h.nb, h.s1, h.sn⟩
theorem Mx.below {w10 w12 : World} {N : Nat} {v : Value} {L : List Itb} {cnt : Int} {W W' : World} (h : Mx w10 w12 N v L cnt W) (hb : Below W.heap.size W W') : Mx w10 w12 N v L cnt W' := by
  have hl := h.lt
  have hs := h.s1
  exact ⟨Below.step h.bel hb, h.mid.trans (Mid.of_below hb (by omega)), h.am.below hb, (hb.block _ (by omega)).trans h.nb, h.s1, h.sn⟩
theorem Mx.cells {w10 w12 : World} {N : Nat} {v : Value} {L : List Itb} {cnt : Int} {W : World} (h : Mx w10 w12 N v L cnt W) : W.cell? ⟨w10.heap.size, 0, none⟩ = some v ∧ W.frozen? ⟨w10.heap.size, 0, none⟩ = false ∧ W.cell? ⟨w10.heap.size + 1, 0, none⟩ = some (.int .i64 cnt) ∧ W.frozen? ⟨w10.heap.size + 1, 0, none⟩ = false :=
  ⟨h.am.box.c, h.am.box.f, by simp [World.cell?, h.nb], by simp [World.frozen?, h.nb]⟩
/-- a model more, and the count set -/
theorem Mx.step {w10 w12 : World} {N : Nat} {v v' : Value} {L : List Itb} {x : Itb} {cnt : Int} {W Wa w1 : World} (h : Mx w10 w12 N v L cnt W) (hNW : N < W.heap.size) (hga : W.grownBy Wa none) {g : Nat} (hu : Mg w12.heap.size W x g) (hgN : g ≠ N) (hS : ∀ y ∈ L, ∀ b, y.1.ownBlock = some b → b < g)
    (own' : w1.ownsRow w12.heap.size 32 1 v' (L.length + 1) (L.map Prod.fst ++ [x.1]))
    (h2 : (∃ g cap, v = .slice (some ⟨g, 0, none⟩) L.length cap ∧ v' = .slice (some ⟨g, 0, none⟩) (L.length + 1) cap ∧ Wa.grownBy w1 (some g)) ∨ (w1.ownsRow Wa.heap.size 32 1 v' (L.length + 1) (L.map Prod.fst ++ [x.1]) ∧ Wa.grownBy w1 none)) :
    B1 w1 w10.heap.size v ∧ (∀ c', Mx w10 w12 N v' (L ++ [x]) c' ((w1.setCell ⟨w10.heap.size, 0, none⟩ v').setCell ⟨w10.heap.size + 1, 0, none⟩ (.int .i64 c')) ∧ KeepsOthers W ((w1.setCell ⟨w10.heap.size, 0, none⟩ v').setCell ⟨w10.heap.size + 1, 0, none⟩ (.int .i64 c')) ∧ Mid (w10.heap.size + 2) w12.heap.size W ((w1.setCell ⟨w10.heap.size, 0, none⟩ v').setCell ⟨w10.heap.size + 1, 0, none⟩ (.int .i64 c')) ∧ ((w1.setCell ⟨w10.heap.size, 0, none⟩ v').setCell ⟨w10.heap.size + 1, 0, none⟩ (.int .i64 c')).heap[N]? = W.heap[N]?) ∧
      (w1.setCell ⟨w10.heap.size, 0, none⟩ v').cell? ⟨w10.heap.size + 1, 0, none⟩ = some (.int .i64 cnt) ∧ (w1.setCell ⟨w10.heap.size, 0, none⟩ v').frozen? ⟨w10.heap.size + 1, 0, none⟩ = false := by
  have hs := h.s1
  have hn := h.sn
  have hl := h.lt
  obtain ⟨q1, q2, q3, q4, q5, q6⟩ := h.am.app (by omega) hNW hga hu hgN hS own' h2
  have hnb : (w1.setCell ⟨w10.heap.size, 0, none⟩ v').heap[w10.heap.size + 1]? = some (.cells #[.int .i64 cnt] 3 (0, 0)) := (q5 _ (by omega) (by omega) (.inl (by omega))).trans h.nb
  refine ⟨q1, fun c' => ?_, by simp only [World.cell?, hnb]; rfl, by simp [World.frozen?, hnb]⟩
  have hgs := grown_set (w1.setCell ⟨w10.heap.size, 0, none⟩ v') ⟨w10.heap.size + 1, 0, none⟩ (.int .i64 c')
  have hk : ∀ k, k ≠ w10.heap.size + 1 → ((w1.setCell ⟨w10.heap.size, 0, none⟩ v').setCell ⟨w10.heap.size + 1, 0, none⟩ (.int .i64 c')).heap[k]? = (w1.setCell ⟨w10.heap.size, 0, none⟩ v').heap[k]? := fun k hk => heap_set_other _ 0 _ hk
  have hz : ((w1.setCell ⟨w10.heap.size, 0, none⟩ v').setCell ⟨w10.heap.size + 1, 0, none⟩ (.int .i64 c')).heap.size = (w1.setCell ⟨w10.heap.size, 0, none⟩ v').heap.size := World.size_setCell _ _ _
  have hmid : Mid (w10.heap.size + 2) w12.heap.size W ((w1.setCell ⟨w10.heap.size, 0, none⟩ v').setCell ⟨w10.heap.size + 1, 0, none⟩ (.int .i64 c')) := ⟨by omega, fun k h1 h2 => (hk k (by omega)).trans (q5 k (by omega) (by omega) (.inl h2))⟩
  refine ⟨⟨(q6 _ w10 (Nat.le_refl _) h.bel.size h.bel).setCell (p := ⟨w10.heap.size + 1, 0, none⟩) (by show w10.heap.size ≤ w10.heap.size + 1; omega) _, h.mid.trans hmid, q2.at hgs (by show w10.heap.size ≠ w10.heap.size + 1; omega) (.inl (by show w10.heap.size + 1 < _; omega)), ?_, h.s1, h.sn⟩, q3.trans (KeepsOthers.setCell _ _ _), hmid, (hk N (by omega)).trans (q5 N hNW (by omega) (.inr rfl))⟩
  have := heap_set hnb 0 (.int .i64 c')
  rw [this]
  simp
theorem wpListIn_append_two {F : Fence} {n : Nat} {P : Program} (w : World) {ops : Array Oper} {rest : List Oper} {o : Oper} {a : Act} {Q : Exit → Act → World → Prop}
    (hgd : o.guard = none) (s x : Operand) (t : TypeId) (hop : o.op = .call { callee := .builtin .append, args := #[s, x], argTypes := #[t, t] })
    (base : Nat) (e : TypeId) (i : TypeInfo) (z : Value) (bytes : Nat) (ht : P.underlying t = some (.slice e)) (hi : P.info? e = some i) (hz : i.zero = some z)
    (hsize : i.size = 1) (hby : i.bytes = bytes) (hzs : z.cells.size = 1)
    (v : Value) (k : Nat) (xs : List Value) (hs : a.eval s = v) (hown : w.ownsRow base e 1 v k xs)
    (ad : Addr) (m c : Nat) (news : List Value) (hx : a.eval x = .slice (some ad) m c) (hl : news.length = m) (hnews : ∀ j u, news[j]? = some u → w.cell? (ad.add j) = some u) (h1 : ∀ u ∈ news, u.oneCell' = true)
    (hm : 0 < m) (h63 : k + m ≤ maxLen) (hbytes : (k + m) * bytes ≤ 140737488355328) (hbase : base ≤ w.heap.size)
    (h : ∀ v' w', w'.ownsRow base e 1 v' (k + m) (xs ++ news) →
      ((∃ g cap, v = .slice (some ⟨g, 0, none⟩) k cap ∧ v' = .slice (some ⟨g, 0, none⟩) (k + m) cap ∧ w.grownBy w' (some g)) ∨ (w'.ownsRow w.heap.size e 1 v' (k + m) (xs ++ news) ∧ w.grownBy w' none)) → wpListIn F n P ops Q rest (a.put o.dst v') w') :
    wpListIn F n P ops Q (o :: rest) a w := by
  refine wpListIn_plain hgd fun K hK' => ?_
  obtain ⟨v', w', hrun, r1, r2⟩ := run_append_two (P := P) w base t o.type e i z bytes ht hi hz hsize hby hzs v k xs hown ad m c news hl hnews h1 hm h63 hbytes hbase
  unfold Oper.wpIn
  refine ⟨?_, ?_⟩
  · simp [Oper.about, hop, resolve, Target.leads, Sem.run_pure]
  · rw [Oper.semAt_plain F _ _ (by rw [hop]; intro c hc'; cases hc')]
    simp [execOp, hop, resolve, invoke, builtin, hs, hx, hrun, Result.andThen]
    exact hK' _ _ (h v' w' r1 r2)
end Go.Proofs.YtfklgfdkpmfdnaaDoor
