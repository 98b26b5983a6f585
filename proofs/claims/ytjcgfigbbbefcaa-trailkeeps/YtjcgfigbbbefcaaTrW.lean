/-
  trail: how it lies in memory; what is asked of it.
  KEEP: set on app at below new trans refl start ap kept rd rds mono
-/
import Derived.Test.YtjcgfigbbbefcaaTrP
import Derived.Test.YtjcgfigbbbefcaaApp2
import Derived.Test.YtjcgfigbbbefcaaConcat
import Derived.Deep.RegionLaw
import Derived.Deep.CutRange
import Derived.Deep.RegionHeld
set_option linter.unusedSimpArgs false
set_option linter.unusedVariables false
namespace Go.Proofs.Ytjcgfigbbbefcaa
open Go Go.RowKit

theorem set_heap {w : World} {g : Nat} {c : Array Value} {e : TypeId} {f : Nat × Nat} (h : w.heap[g]? = some (.cells c e f)) (k : Nat) (v : Value) : (w.setCell ⟨g, k, none⟩ v).heap[g]? = some (.cells (c.setIfInBounds k v) e f) := by
  obtain ⟨hlt, hk⟩ := Array.getElem?_eq_some_iff.1 h
  show (w.heap.modify g _)[g]? = _
  rw [Array.getElem?_eq_getElem (by rw [Array.size_modify]; exact hlt), Array.getElem_modify_self, hk]
  rfl
def Bx4 (W : World) (D : Nat) (t : TypeId) (x y z u : Value) : Prop := W.heap[D]? = some (.cells #[x, y, z, u] t (0, 0))
section
variable {W W' : World} {D : Nat} {t : TypeId} {x y z u : Value}
theorem Bx4.lt (h : Bx4 W D t x y z u) : D < W.heap.size := (Array.getElem?_eq_some_iff.1 h).1
theorem Bx4.c0 (h : Bx4 W D t x y z u) : W.cell? ⟨D, 0, none⟩ = some x := by simp [World.cell?, show W.heap[D]? = _ from h]
theorem Bx4.c1 (h : Bx4 W D t x y z u) : W.cell? ⟨D, 1, none⟩ = some y := by simp [World.cell?, show W.heap[D]? = _ from h]
theorem Bx4.c2 (h : Bx4 W D t x y z u) : W.cell? ⟨D, 2, none⟩ = some z := by simp [World.cell?, show W.heap[D]? = _ from h]
theorem Bx4.c3 (h : Bx4 W D t x y z u) : W.cell? ⟨D, 3, none⟩ = some u := by simp [World.cell?, show W.heap[D]? = _ from h]
theorem Bx4.fz (h : Bx4 W D t x y z u) (o : Nat) : W.frozen? ⟨D, o, none⟩ = false := by simp [World.frozen?, show W.heap[D]? = _ from h]
theorem Bx4.kept {row : Option Nat} (h : Bx4 W D t x y z u) (hg : W.grownBy W' row) (hne : some D ≠ row) : Bx4 W' D t x y z u := (hg.block D h.lt hne).trans h
theorem Bx4.set2 (h : Bx4 W D t x y z u) (v : Value) : Bx4 (W.setCell ⟨D, 2, none⟩ v) D t x y v u := by
  exact set_heap h 2 v
theorem Bx4.set3 (h : Bx4 W D t x y z u) (v : Value) : Bx4 (W.setCell ⟨D, 3, none⟩ v) D t x y z v := by
  exact set_heap h 3 v
theorem Bx4.not_row {e : TypeId} (h : Bx4 W D t x y z u) (hte : t ≠ e) {base size k : Nat} {v : Value} {xs : List Value} (hr : W.ownsRow base e size v k xs) : some D ≠ v.ownBlock := by
  rcases hr.2 with ⟨rfl, _⟩ | ⟨g, cap, cur, rfl, _, hg, _⟩
  · simp [Value.ownBlock]
  · intro e1
    have : D = g := by simpa [Value.ownBlock] using e1
    subst this
    rw [show W.heap[D]? = _ from h] at hg
    injection hg with hg; injection hg with _ h2; exact hte h2
end

structure Sl where
  V : Value
  F : Value
  R : Value
  L : Value
def Sl.own (s : Sl) (b k : Nat) : Prop := k = b ∨ some k = s.V.ownBlock ∨ some k = s.F.ownBlock ∨ some k = s.R.ownBlock ∨ some k = s.L.ownBlock

/-- a trail as it lies: values, facts, row, levels -/
structure Tq (W : World) (b : Nat) (s : Sl) (n : Nat) (A B C : List Int) (D : List (Nat × Int)) : Prop where
  box : Bx4 W b 77 s.V s.F s.R s.L
  v : W.ownsRow 0 46 1 s.V n (A.map (Value.int .i8))
  f : W.ownsRow 0 86 2 s.F n (B.map (Value.int .i64))
  r : Own 0 W s.R C
  l : W.ownsRow 0 74 2 s.L D.length (two D)
structure Tr (W : World) (b : Nat) (s : Sl) (n : Nat) (R : List Pl) : Prop where
  q : Tq W b s n (vals n R) (facts n R) (R.map Pl.lit) (lvs R)
  ok : okT n R
  n : n ≤ 1048576
structure Mv (w : World) (b : Nat) (s : Sl) (w' : World) (s' : Sl) : Prop where
  os : w'.os = w.os
  tape : w'.tape = w.tape
  output : w'.output = w.output
  size : w.heap.size ≤ w'.heap.size
  block : ∀ k, k < w.heap.size → ¬ s.own b k → w'.heap[k]? = w.heap[k]?
  new : ∀ k, s'.own b k → s.own b k ∨ w.heap.size ≤ k
theorem Mv.refl (w : World) (b : Nat) (s : Sl) : Mv w b s w s := ⟨rfl, rfl, rfl, Nat.le_refl _, fun _ _ _ => rfl, fun _ h => .inl h⟩
theorem Mv.below {w w' : World} {b : Nat} {s : Sl} (h : Below w.heap.size w w') : Mv w b s w' s := ⟨h.os, h.tape, h.output, h.size, fun k hk _ => h.block k hk, fun _ h => .inl h⟩
theorem Mv.trans {w w1 w2 : World} {b : Nat} {s s1 s2 : Sl} (h : Mv w b s w1 s1) (k : Mv w1 b s1 w2 s2) : Mv w b s w2 s2 :=
  ⟨k.os.trans h.os, k.tape.trans h.tape, k.output.trans h.output, Nat.le_trans h.size k.size,
    fun i hi h1 => (k.block i (Nat.lt_of_lt_of_le hi h.size) (fun h2 => by
      rcases h.new i h2 with h3 | h3
      · exact h1 h3
      · omega)).trans (h.block i hi h1),
    fun i hi => by
      rcases k.new i hi with h1 | h1
      · exact h.new i h1
      · exact .inr (Nat.le_trans h.size h1)⟩
/-- a row of one's own in which a cell is set -/
theorem own_cell {w : World} {base e size n g cap k : Nat} {xs : List Value} (h : w.ownsRow base e size (.slice (some ⟨g, 0, none⟩) n cap) n xs) (hk : k < n * size) (x : Value) :
    (w.setCell ⟨g, k, none⟩ x).ownsRow base e size (.slice (some ⟨g, 0, none⟩) n cap) n (xs.set k x) := by
  rcases h.2 with ⟨e1, _⟩ | ⟨g', cap', cur, hv, hb, hg, h1, h2, h3, h4⟩
  · simp at e1
  · injection hv with ha _ hc
    injection ha with ha; injection ha with ha; subst ha; subst hc
    refine ⟨by rw [List.length_set]; exact h.1, .inr ⟨g, cap, cur.setIfInBounds k x, rfl, hb, ?_, h1, h2, by simpa using h3, ?_⟩⟩
    · exact set_heap hg k x
    · rw [Array.toList_setIfInBounds, List.take_set, h4]
/-- a row that is cut -/
theorem own_cut {w : World} {base e size n g cap m : Nat} {xs : List Value} (h : w.ownsRow base e size (.slice (some ⟨g, 0, none⟩) n cap) n xs) (hm : m ≤ n) :
    w.ownsRow base e size (.slice (some ⟨g, 0, none⟩) m cap) m (xs.take (m * size)) := by
  rcases h.2 with ⟨e1, _⟩ | ⟨g', cap', cur, hv, hb, hg, h1, h2, h3, h4⟩
  · simp at e1
  · injection hv with ha _ hc
    injection ha with ha; injection ha with ha; subst ha; subst hc
    have h5 : m * size ≤ n * size := Nat.mul_le_mul_right _ hm
    refine ⟨by rw [List.length_take, h.1]; omega, .inr ⟨g, cap, cur, rfl, hb, hg, by omega, h2, h3, ?_⟩⟩
    rw [← h4, List.take_take, Nat.min_eq_left h5]
theorem row_cell {w : World} {base e size n g cap : Nat} {xs : List Value} (h : w.ownsRow base e size (.slice (some ⟨g, 0, none⟩) n cap) n xs) {j : Nat} {x : Value} (hj : xs[j]? = some x) : w.cell? ⟨g, j, none⟩ = some x := by
  have := h.cells (g := g) rfl j x hj
  rw [Addr.add_lit] at this
  simpa using this
theorem row_fz {w : World} {base e size n g cap : Nat} {xs : List Value} (h : w.ownsRow base e size (.slice (some ⟨g, 0, none⟩) n cap) n xs) (j : Nat) : w.frozen? ⟨g, j, none⟩ = false := by
  rcases h.2 with ⟨e1, _⟩ | ⟨g', cap', cur, hv, hb, hg, h1, h2, h3, h4⟩
  · simp at e1
  · injection hv with ha _ hc
    injection ha with ha; injection ha with ha; subst ha
    simp [World.frozen?, hg]
theorem row_some {w : World} {base e size n : Nat} {v : Value} {xs : List Value} (h : w.ownsRow base e size v n xs) (hn : 0 < n) : ∃ g cap, v = .slice (some ⟨g, 0, none⟩) n cap ∧ n ≤ cap ∧ cap ≤ maxLen ∧ g < w.heap.size := by
  rcases h.2 with ⟨_, e1⟩ | ⟨g', cap', cur, hv, hb, hg, h1, h2, h3, h4⟩
  · omega
  · exact ⟨g', cap', hv, h1, h2, (Array.getElem?_eq_some_iff.1 hg).1⟩
theorem row_form' {w : World} {base e size n : Nat} {v : Value} {xs : List Value} (h : w.ownsRow base e size v n xs) : ∃ a cap, v = .slice a n cap := by
  rcases h.2 with ⟨rfl, e1⟩ | ⟨g', cap', cur, rfl, _⟩
  · subst e1; exact ⟨_, _, rfl⟩
  · exact ⟨_, _, rfl⟩
theorem row_kept {w w' : World} {base e size n : Nat} {v : Value} {xs : List Value} (h : w.ownsRow base e size v n xs) (hk : ∀ k, some k = v.ownBlock → w'.heap[k]? = w.heap[k]?) : w'.ownsRow base e size v n xs := by
  refine ⟨h.1, ?_⟩
  rcases h.2 with hn | ⟨g, cap, cur, rfl, hb, hg, r⟩
  · exact .inl hn
  · exact .inr ⟨g, cap, cur, rfl, hb, (hk g rfl).trans hg, r⟩

theorem neV : (46 : TypeId) ≠ 86 ∧ (46 : TypeId) ≠ 3 ∧ (46 : TypeId) ≠ 74 ∧ (3 : TypeId) ≠ 86 ∧ (3 : TypeId) ≠ 74 ∧ (86 : TypeId) ≠ 74 ∧
    (77 : TypeId) ≠ 46 ∧ (77 : TypeId) ≠ 3 ∧ (77 : TypeId) ≠ 86 ∧ (77 : TypeId) ≠ 74 := by decide
section
variable {W W' : World} {b : Nat} {s : Sl} {n : Nat} {A B C : List Int} {D : List (Nat × Int)} {R : List Pl}
theorem Tq.lt (h : Tq W b s n A B C D) : ∀ k, s.own b k → k < W.heap.size := by
  have go : ∀ {e sz m : Nat} {v : Value} {xs : List Value}, W.ownsRow 0 e sz v m xs → ∀ k, some k = v.ownBlock → k < W.heap.size := fun hr k hk => (hr.lt k hk.symm).2
  rintro k (rfl | hk | hk | hk | hk)
  · exact h.box.lt
  · exact go h.v k hk
  · exact go h.f k hk
  · exact go h.r k hk
  · exact go h.l k hk
theorem Tq.kept (h : Tq W b s n A B C D) (hk : ∀ k, s.own b k → W'.heap[k]? = W.heap[k]?) : Tq W' b s n A B C D :=
  ⟨(hk b (.inl rfl)).trans h.box, row_kept h.v fun k e => hk k (.inr (.inl e)), row_kept h.f fun k e => hk k (.inr (.inr (.inl e))), row_kept h.r fun k e => hk k (.inr (.inr (.inr (.inl e)))), row_kept h.l fun k e => hk k (.inr (.inr (.inr (.inr e))))⟩
theorem Tq.below (h : Tq W b s n A B C D) (hb : Below W.heap.size W W') : Tq W' b s n A B C D := h.kept fun k hk => hb.block k (h.lt k hk)
theorem Tr.below (h : Tr W b s n R) (hb : Below W.heap.size W W') : Tr W' b s n R := ⟨h.q.below hb, h.ok, h.n⟩
theorem Tr.kept (h : Tr W b s n R) (hk : ∀ k, s.own b k → W'.heap[k]? = W.heap[k]?) : Tr W' b s n R := ⟨h.q.kept hk, h.ok, h.n⟩
/-- another trail is left as it was -/
theorem Tr.other {b2 : Nat} {s2 s2' : Sl} (h : Tr W b s n R) (hm : Mv W b2 s2 W' s2') (hd : ∀ k, s.own b k → ¬ s2.own b2 k) : Tr W' b s n R := h.kept fun k hk => hm.block k (h.q.lt k hk) (hd k hk)
theorem Tr.rd (h : Tr W b s n R) : Rd W s.R (R.map Pl.lit) := Own.rd h.q.r (by have := h.ok.len; have := h.n; simp; omega)
/-- a value is set -/
theorem Tq.setV {g cap k : Nat} (h : Tq W b s n A B C D) (hv : s.V = .slice (some ⟨g, 0, none⟩) n cap) (hk : k < n) (z : Int) : Tq (W.setCell ⟨g, k, none⟩ (.int .i8 z)) b s n (A.set k z) B C D ∧ Mv W b s (W.setCell ⟨g, k, none⟩ (.int .i8 z)) s := by
  have hg := grown_set W ⟨g, k, none⟩ (.int .i8 z)
  have e : (some g : Option Nat) = s.V.ownBlock := by rw [hv]; rfl
  have hg' : W.grownBy (W.setCell ⟨g, k, none⟩ (.int .i8 z)) s.V.ownBlock := by rw [← e]; exact hg
  obtain ⟨n1, n2, n3, n4, n5, n6, n7, n8, n9, n10⟩ := neV
  refine ⟨⟨h.box.kept hg' (h.box.not_row n7 h.v), ?_, row_apart (Ne.symm n1) h.f h.v hg', row_apart (Ne.symm n2) h.r h.v hg', row_apart (Ne.symm n3) h.l h.v hg'⟩, ⟨hg.os, hg.tape, hg.output, hg.size, fun i hi h1 => hg.block i hi (fun e1 => h1 (.inr (.inl (by rw [e1]; exact e)))), fun _ h => .inl h⟩⟩
  have h1 := h.v
  rw [hv] at h1 ⊢
  rw [List.map_set]
  exact own_cell h1 (by omega) _
theorem Tq.setF {g cap k : Nat} (h : Tq W b s n A B C D) (hv : s.F = .slice (some ⟨g, 0, none⟩) n cap) (hk : k < n * 2) (z : Int) : Tq (W.setCell ⟨g, k, none⟩ (.int .i64 z)) b s n A (B.set k z) C D ∧ Mv W b s (W.setCell ⟨g, k, none⟩ (.int .i64 z)) s := by
  have hg := grown_set W ⟨g, k, none⟩ (.int .i64 z)
  have e : (some g : Option Nat) = s.F.ownBlock := by rw [hv]; rfl
  have hg' : W.grownBy (W.setCell ⟨g, k, none⟩ (.int .i64 z)) s.F.ownBlock := by rw [← e]; exact hg
  obtain ⟨n1, n2, n3, n4, n5, n6, n7, n8, n9, n10⟩ := neV
  refine ⟨⟨h.box.kept hg' (h.box.not_row n9 h.f), row_apart n1 h.v h.f hg', ?_, row_apart n4 h.r h.f hg', row_apart (Ne.symm n6) h.l h.f hg'⟩, ⟨hg.os, hg.tape, hg.output, hg.size, fun i hi h1 => hg.block i hi (fun e1 => h1 (.inr (.inr (.inl (by rw [e1]; exact e))))), fun _ h => .inl h⟩⟩
  have h1 := h.f
  rw [hv] at h1 ⊢
  rw [List.map_set]
  exact own_cell h1 hk _
/-- the row is another -/
theorem Tq.putR {W1 : World} {u : Value} {C' : List Int} (h : Tq W b s n A B C D) (hg : W.grownBy W1 s.R.ownBlock) (hn : u.ownBlock = s.R.ownBlock ∨ ∀ g, u.ownBlock = some g → W.heap.size ≤ g) (ho : Own 0 W1 u C') :
    Tq (W1.setCell ⟨b, 2, none⟩ u) b { s with R := u } n A B C' D ∧ Mv W b s (W1.setCell ⟨b, 2, none⟩ u) { s with R := u } := by
  obtain ⟨n1, n2, n3, n4, n5, n6, n7, n8, n9, n10⟩ := neV
  have hb : Bx4 W1 b 77 s.V s.F s.R s.L := h.box.kept hg (h.box.not_row n8 h.r)
  have hv := row_apart n2 h.v h.r hg
  have hf := row_apart (Ne.symm n4) h.f h.r hg
  have hl := row_apart (Ne.symm n5) h.l h.r hg
  have hs := grown_set W1 ⟨b, 2, none⟩ u
  have keep : ∀ {e sz m : Nat} {v : Value} {xs : List Value}, 77 ≠ e → W1.ownsRow 0 e sz v m xs → (W1.setCell ⟨b, 2, none⟩ u).ownsRow 0 e sz v m xs := fun hne hr => row_kept hr fun k hk => hs.block k ((hr.lt k hk.symm).2) (fun e1 => hb.not_row hne hr (by rw [← hk, e1]))
  refine ⟨⟨hb.set2 u, keep n7 hv, keep n9 hf, keep n8 ho, keep n10 hl⟩, ⟨hs.os.trans hg.os, hs.tape.trans hg.tape, hs.output.trans hg.output, Nat.le_trans hg.size hs.size, fun i hi h1 => ?_, ?_⟩⟩
  · exact (hs.block i (Nat.lt_of_lt_of_le hi hg.size) (fun e1 => h1 (.inl (by simpa using e1)))).trans (hg.block i hi (fun e1 => h1 (.inr (.inr (.inr (.inl e1))))))
  · rintro k (rfl | hk | hk | hk | hk)
    · exact .inl (.inl rfl)
    · exact .inl (.inr (.inl hk))
    · exact .inl (.inr (.inr (.inl hk)))
    · rcases hn with e | e
      · exact .inl (.inr (.inr (.inr (.inl (by rw [← e]; exact hk)))))
      · exact .inr (e k hk.symm)
    · exact .inl (.inr (.inr (.inr (.inr hk))))
theorem Tq.putL {W1 : World} {u : Value} {D' : List (Nat × Int)} (h : Tq W b s n A B C D) (hg : W.grownBy W1 s.L.ownBlock) (hn : u.ownBlock = s.L.ownBlock ∨ ∀ g, u.ownBlock = some g → W.heap.size ≤ g) (ho : W1.ownsRow 0 74 2 u D'.length (two D')) :
    Tq (W1.setCell ⟨b, 3, none⟩ u) b { s with L := u } n A B C D' ∧ Mv W b s (W1.setCell ⟨b, 3, none⟩ u) { s with L := u } := by
  obtain ⟨n1, n2, n3, n4, n5, n6, n7, n8, n9, n10⟩ := neV
  have hb : Bx4 W1 b 77 s.V s.F s.R s.L := h.box.kept hg (h.box.not_row n10 h.l)
  have hv := row_apart n3 h.v h.l hg
  have hf := row_apart n6 h.f h.l hg
  have hr := row_apart n5 h.r h.l hg
  have hs := grown_set W1 ⟨b, 3, none⟩ u
  have keep : ∀ {e sz m : Nat} {v : Value} {xs : List Value}, 77 ≠ e → W1.ownsRow 0 e sz v m xs → (W1.setCell ⟨b, 3, none⟩ u).ownsRow 0 e sz v m xs := fun hne hr => row_kept hr fun k hk => hs.block k ((hr.lt k hk.symm).2) (fun e1 => hb.not_row hne hr (by rw [← hk, e1]))
  refine ⟨⟨hb.set3 u, keep n7 hv, keep n9 hf, keep n8 hr, keep n10 ho⟩, ⟨hs.os.trans hg.os, hs.tape.trans hg.tape, hs.output.trans hg.output, Nat.le_trans hg.size hs.size, fun i hi h1 => ?_, ?_⟩⟩
  · exact (hs.block i (Nat.lt_of_lt_of_le hi hg.size) (fun e1 => h1 (.inl (by simpa using e1)))).trans (hg.block i hi (fun e1 => h1 (.inr (.inr (.inr (.inr e1))))))
  · rintro k (rfl | hk | hk | hk | hk)
    · exact .inl (.inl rfl)
    · exact .inl (.inr (.inl hk))
    · exact .inl (.inr (.inr (.inl hk)))
    · exact .inl (.inr (.inr (.inr (.inl hk))))
    · rcases hn with e | e
      · exact .inl (.inr (.inr (.inr (.inr (by rw [← e]; exact hk)))))
      · exact .inr (e k hk.symm)
end
end Go.Proofs.Ytjcgfigbbbefcaa
