/-
  The document's WriteList of relations, walked.
  KEEP: off c0 c1 c2 c3 c4 s0 s1 s2 s3 s4 newS rds lt f t q x one_row22 rd22 lisF head22 put22 cellAt22 OwnR OwnRs St22 LsAns RdR RdRs all22 below22 at22 blw Ap put_app step_append_apk len below nil form rd mono on app start at new trans refl kept own row out grown rdz set one more lt size cell some none letL tail next step go add put del get look no yes e c f b k n m box take each block shape os tape output setCell heap alloc addr last blk drew keep done
-/
import Derived.Test.YtmfcaoacklbkoaaDoorRlJ
set_option linter.unusedSimpArgs false
set_option linter.unusedVariables false
namespace Go.Proofs.YtmfcaoacklbkoaaDoor
open Go Go.RowKit

theorem relC_at : ∀ (rs : List Rl) (j : Nat), j < rs.length → (relC rs)[j * 3]? = some (.string (rs.getD j noRl).1) ∧ (relC rs)[j * 3 + 1]? = some (.int .i64 (rs.getD j noRl).2.1) ∧ (relC rs)[j * 3 + 2]? = some (.string (rs.getD j noRl).2.2)
  | x :: r, 0, _ => ⟨rfl, rfl, rfl⟩
  | x :: r, j + 1, h => by
    have := relC_at r j (by simpa using h)
    have e : relC (x :: r) = .string x.1 :: .int .i64 x.2.1 :: .string x.2.2 :: relC r := rfl
    rw [e, show (j + 1) * 3 = j * 3 + 1 + 1 + 1 by omega, show j * 3 + 1 + 1 + 1 + 1 = (j * 3 + 1) + 1 + 1 + 1 by omega, show j * 3 + 1 + 1 + 1 + 2 = (j * 3 + 2) + 1 + 1 + 1 by omega]
    simpa using this
theorem OwnR.rd22 {B : Nat} {W : World} {v : Value} {rs : List Rl} (h : OwnR B W v rs) (h40 : rs.length * 40 ≤ 140737488351232) : RdR W v rs := by
  rcases h.2 with ⟨rfl, hn⟩ | ⟨g, cap, cur, rfl, hg, hh, hn, hm, hs, ht⟩
  · have : rs = [] := List.eq_nil_of_length_eq_zero hn
    subst this
    exact ⟨by simp, none, 0, rfl, Nat.le_refl _, Nat.zero_le _, fun h => absurd rfl h⟩
  · refine ⟨h40, _, cap, rfl, hn, hm, fun hne => ⟨g, 0, rfl, (Array.getElem?_eq_some_iff.1 hh).1, fun j hj => ?_⟩⟩
    have h1 := World.ownsRow.cellAt h (j * 3) (by omega)
    have h2 := World.ownsRow.cellAt h (j * 3 + 1) (by omega)
    have h3 := World.ownsRow.cellAt h (j * 3 + 2) (by omega)
    obtain ⟨e1, e2, e3⟩ := relC_at rs j hj
    rw [e1] at h1
    rw [e2] at h2
    rw [e3] at h3
    exact ⟨by simpa using h1, by simpa using h2, by simpa using h3⟩
theorem OwnRs.rd22 {B : Nat} {W : World} {v : Value} {L : List RG} (h : OwnRs B W v L) (h24 : L.length * 24 ≤ 140737488351232) (he : ∀ x ∈ L, x.2.length * 40 ≤ 140737488351232) : RdRs W v (rgS L) := by
  have hl : (rgS L).length = L.length := by simp [rgS]
  obtain ⟨a, c, rfl⟩ := row_form22 h.row
  rcases h.row.2 with ⟨e, hn⟩ | ⟨g, cap, cur, hv, hg, hh, hn, hm, hs, ht⟩
  · have : L = [] := List.eq_nil_of_length_eq_zero hn
    subst this
    injection e with q1 q2 q3
    subst q1 q3
    exact ⟨by simp [rgS], none, 0, rfl, Nat.le_refl _, Nat.zero_le _, fun h => absurd rfl h⟩
  · injection hv with q1 q2 q3
    subst q1 q3
    refine ⟨by rw [hl]; exact h24, _, _, by rw [hl], by rw [hl]; exact hn, hm, fun hne => ⟨g, 0, rfl, (Array.getElem?_eq_some_iff.1 hh).1, fun j hj => ?_⟩⟩
    rw [hl] at hj
    obtain ⟨g', e', _, hcell⟩ := h.cellAt22 hj
    injection e' with e'
    injection e' with e'
    subst e'
    have hx : L.getD j (undef, []) ∈ L := by rw [List.getD_eq_getElem?_getD, List.getElem?_eq_getElem hj]; exact List.getElem_mem hj
    refine ⟨_, by simpa using hcell, ?_⟩
    have h2 := (h.own _ hx).rd22 (he _ hx)
    have h3 : (rgS L).getD j [] = (L.getD j (undef, [])).2 := by unfold rgS; rw [List.getD_eq_getElem?_getD, List.getElem?_map, List.getD_eq_getElem?_getD, List.getElem?_eq_getElem hj]; rfl
    rw [h3]; exact h2
theorem one_row22 {B : Nat} (W : World) (r : Rl) (hB : B ≤ W.heap.size) : OwnR B (W.alloc (.cells #[.string r.1, .int .i64 r.2.1, .string r.2.2] 34)) (.slice (some ⟨W.heap.size, 0, none⟩) 1 1) [r] :=
  ⟨rfl, .inr ⟨W.heap.size, 1, #[.string r.1, .int .i64 r.2.1, .string r.2.2], rfl, hB, World.alloc_heap_new W _, Nat.le_refl _, by unfold maxLen; omega, rfl, rfl⟩⟩
theorem OwnRs.one22 {B : Nat} {W : World} {s : Value} {L : List RG} (h : OwnRs B W s L) (r : Rl) (hB : B ≤ W.heap.size) :
    St22 B (W.alloc (.cells #[.string r.1, .int .i64 r.2.1, .string r.2.2] 34)) s L (.slice (some ⟨W.heap.size, 0, none⟩) 1 1) [r] := by
  have hk : ∀ k, k < W.heap.size → (W.alloc (.cells #[.string r.1, .int .i64 r.2.1, .string r.2.2] 34)).heap[k]? = W.heap[k]? := fun k hk => Below.heap_alloc W _ k hk
  refine ⟨⟨row_kept22 h.row fun k e => hk k (World.ownsRow.lt h.row k e).2, fun x hx => row_kept22 (h.own x hx) fun k e => hk k (World.ownsRow.lt (h.own x hx) k e).2, h.ap⟩, one_row22 W r hB, fun x hx g e e2 => ?_⟩
  have h1 := (World.ownsRow.lt (h.own x hx) g e).2
  have h2 : W.heap.size = g := by simpa [Value.ownBlock] using e2
  omega

end Go.Proofs.YtmfcaoacklbkoaaDoor
