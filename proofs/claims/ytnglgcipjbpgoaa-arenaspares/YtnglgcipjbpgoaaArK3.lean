/-
  ArenaKeeps: the arena and its book, step by step; a script that is read.
  KEEP: set on app at below new trans refl start ap kept rd rds mono
-/
import Derived.Test.YtnglgcipjbpgoaaArK2
set_option linter.unusedSimpArgs false
set_option linter.unusedVariables false
namespace Go.Proofs.Ytnglgcipjbpgoaa
open Go Go.RowKit Go.Maps

theorem row_mv {w w' : World} {b : Nat} {v v' : Value} {S : List Seg} {B K s : Nat} {e : TypeId} {u : Value} {xs : List Value} (ha : Ar w b v S) (m : Mv w b v w' v') (h : w.ownsRow B e s u K xs) (h1 : 83 ≠ e) (h2 : 3 ≠ e) : w'.ownsRow B e s u K xs := by
  rcases h.2 with ⟨e1, e2⟩ | ⟨g, cap, cur, e1, hbg, hh, r1, r2, r3, r4⟩
  · exact ⟨h.1, .inl ⟨e1, e2⟩⟩
  · refine ⟨h.1, .inr ⟨g, cap, cur, e1, hbg, ?_, r1, r2, r3, r4⟩⟩
    rw [m.block g (Array.getElem?_eq_some_iff.1 hh).1 ?_ ?_]; exact hh
    · rintro rfl
      rw [show w.heap[g]? = _ from ha.box] at hh
      injection hh with hh
      injection hh with _ e3
      exact absurd e3 h1
    · intro e3
      rcases ha.own.2 with ⟨e4, _⟩ | ⟨g', _, _, e4, _, hh', _⟩
      · rw [e4] at e3; cases e3
      · rw [e4] at e3; cases e3
        rw [hh'] at hh
        injection hh with hh
        injection hh with _ e5
        exact absurd e5 h2
theorem rowsK_set {L : List Ent} {k : Nat} (hk : k < L.length) : rowsK (L.set k (L[k].1, { L[k].2 with live := false })) = (rowsK L).set (k * 4 + 3) (.bool false) := by
  induction L generalizing k with
  | nil => simp at hk
  | cons x r ih =>
    cases k with
    | zero => simp [rowsK]
    | succ j =>
      have := ih (k := j) (by simpa using hk)
      rw [List.set_cons_succ, show rowsK (x :: r) = .int .i64 x.2.pl :: x.1 :: .bool x.2.learnt :: .bool x.2.live :: rowsK r from rfl, show (j + 1) * 4 + 3 = j * 4 + 3 + 1 + 1 + 1 + 1 by omega]
      simp only [List.set_cons_succ, List.getElem_cons_succ]
      rw [← this]; rfl
/-- a step of a script -/
structure AOp where
  kind : Int
  which : Int
  ref : Int
  lits : List Int
  learnt : Bool
def cost (ops : List AOp) : Nat := (ops.map (fun o => 1 + o.lits.length)).sum
theorem cost_take (ops : List AOp) (i : Nat) (h : i < ops.length) : cost (ops.take (i + 1)) = cost (ops.take i) + 1 + ops[i].lits.length := by
  unfold cost
  rw [List.take_succ_eq_append_getElem h, List.map_append, List.sum_append]
  simp; omega
theorem cost_le (ops : List AOp) (i : Nat) : cost (ops.take i) ≤ cost ops := by
  have : cost ops = cost (ops.take i) + cost (ops.drop i) := by
    unfold cost
    rw [← List.sum_append, ← List.map_append, List.take_append_drop]
  omega
/-- a script that is read -/
def RdO (W : World) (s : Value) (ops : List AOp) : Prop :=
  ∃ a c, s = .slice a ops.length c ∧ ops.length ≤ c ∧ c ≤ maxLen ∧ ∀ (j : Nat) (hj : j < ops.length), ∃ b off u, a = some ⟨b, off, none⟩ ∧ b < W.heap.size ∧
    W.cell? ⟨b, off + j * 5, none⟩ = some (.int .i64 ops[j].kind) ∧ W.cell? ⟨b, off + j * 5 + 1, none⟩ = some (.int .i64 ops[j].which) ∧ W.cell? ⟨b, off + j * 5 + 2, none⟩ = some (.int .i64 ops[j].ref) ∧
    W.cell? ⟨b, off + j * 5 + 3, none⟩ = some u ∧ W.cell? ⟨b, off + j * 5 + 4, none⟩ = some (.bool ops[j].learnt) ∧ Rd W u ops[j].lits ∧ (Lit.int .i64 ops[j].ref).wf = true
theorem RdO.below {W W' : World} {B : Nat} {s : Value} {ops : List AOp} (h : RdO W s ops) (hb : Below W.heap.size W W') : RdO W' s ops := by
  obtain ⟨a, c, e, h1, h2, h3⟩ := h
  refine ⟨a, c, e, h1, h2, fun j hj => ?_⟩
  obtain ⟨b, off, u, e1, hl, c0, c1, c2, c3, c4, hr, hw⟩ := h3 j hj
  have hc : ∀ o, W'.cell? ⟨b, o, none⟩ = W.cell? ⟨b, o, none⟩ := fun o => hb.cell (p := ⟨b, o, none⟩) hl
  exact ⟨b, off, u, e1, Nat.lt_of_lt_of_le hl hb.size, by rw [hc]; exact c0, by rw [hc]; exact c1, by rw [hc]; exact c2, by rw [hc]; exact c3, by rw [hc]; exact c4, hr.below hb, hw⟩
end Go.Proofs.Ytnglgcipjbpgoaa
