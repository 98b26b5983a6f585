/-
  Reading lists of relations in memory; the document's Write of relations, walked.
  KEEP: off c0 c1 c2 c3 c4 s0 s1 s2 s3 s4 newS rds lt f t q x lisF head22 put22 cellAt22 OwnR OwnRs St22 LsAns RdR RdRs below22 at22 blw Ap put_app step_append_apk len below nil form rd mono on app start at new trans refl kept own row out grown rdz set one more lt size cell some none letL tail next step go add put del get look no yes e c f b k n m box take each block shape os tape output setCell heap alloc addr last blk drew keep done
-/
import Derived.Test.YtmfcaoacklbkoaaDoorRlH
import Derived.Test.YtmfcaoacklbkoaaDoorRlC
set_option linter.unusedSimpArgs false
set_option linter.unusedVariables false
namespace Go.Proofs.YtmfcaoacklbkoaaDoor
open Go Go.RowKit

/-- a slice reads relations -/
def RdR (w : World) (v : Value) (rs : List Rl) : Prop :=
  rs.length * 40 ≤ 140737488351232 ∧ ∃ a c, v = .slice a rs.length c ∧ rs.length ≤ c ∧ c ≤ maxLen ∧
    (rs ≠ [] → ∃ b off, a = some ⟨b, off, none⟩ ∧ b < w.heap.size ∧ ∀ j, j < rs.length → w.cell? ⟨b, off + j * 3, none⟩ = some (.string (rs.getD j noRl).1) ∧ w.cell? ⟨b, off + j * 3 + 1, none⟩ = some (.int .i64 (rs.getD j noRl).2.1) ∧ w.cell? ⟨b, off + j * 3 + 2, none⟩ = some (.string (rs.getD j noRl).2.2))
theorem RdR.below22 {w w' : World} {v : Value} {rs : List Rl} (h : RdR w v rs) (hb : Below w.heap.size w w') : RdR w' v rs := by
  obtain ⟨h1, a, c, rfl, hc, hm, h2⟩ := h
  refine ⟨h1, a, c, rfl, hc, hm, fun hne => ?_⟩
  obtain ⟨b, off, rfl, hlt, hcell⟩ := h2 hne
  refine ⟨b, off, rfl, Nat.lt_of_lt_of_le hlt hb.size, fun j hj => ?_⟩
  obtain ⟨x, y, z⟩ := hcell j hj
  exact ⟨(hb.cell (p := ⟨b, off + j * 3, none⟩) hlt).trans x, (hb.cell (p := ⟨b, off + j * 3 + 1, none⟩) hlt).trans y, (hb.cell (p := ⟨b, off + j * 3 + 2, none⟩) hlt).trans z⟩
theorem RdR.at22 {w : World} {v : Value} {rs : List Rl} (h : RdR w v rs) : ∃ a c, v = .slice a rs.length c ∧ rs.length ≤ c ∧ c ≤ maxLen ∧ ∀ j, j < rs.length → ∃ b off, a = some ⟨b, off, none⟩ ∧ w.cell? ⟨b, off + j * 3, none⟩ = some (.string (rs.getD j noRl).1) ∧ w.cell? ⟨b, off + j * 3 + 1, none⟩ = some (.int .i64 (rs.getD j noRl).2.1) ∧ w.cell? ⟨b, off + j * 3 + 2, none⟩ = some (.string (rs.getD j noRl).2.2) := by
  obtain ⟨h1, a, c, rfl, hc, hm, h2⟩ := h
  refine ⟨a, c, rfl, hc, hm, fun j hj => ?_⟩
  obtain ⟨b, off, e, hb, hcell⟩ := h2 (by intro e; subst e; simp at hj)
  exact ⟨b, off, e, hcell j hj⟩
/-- a slice reads lists of relations -/
def RdRs (w : World) (v : Value) (l : List (List Rl)) : Prop :=
  l.length * 24 ≤ 140737488351232 ∧ ∃ a c, v = .slice a l.length c ∧ l.length ≤ c ∧ c ≤ maxLen ∧
    (l ≠ [] → ∃ b off, a = some ⟨b, off, none⟩ ∧ b < w.heap.size ∧ ∀ j, j < l.length → ∃ u, w.cell? ⟨b, off + j, none⟩ = some u ∧ RdR w u (l.getD j []))
theorem RdRs.below22 {w w' : World} {v : Value} {l : List (List Rl)} (h : RdRs w v l) (hb : Below w.heap.size w w') : RdRs w' v l := by
  obtain ⟨h1, a, c, rfl, hc, hm, h2⟩ := h
  refine ⟨h1, a, c, rfl, hc, hm, fun hne => ?_⟩
  obtain ⟨b, off, rfl, hlt, hcell⟩ := h2 hne
  refine ⟨b, off, rfl, Nat.lt_of_lt_of_le hlt hb.size, fun j hj => ?_⟩
  obtain ⟨u, x, y⟩ := hcell j hj
  exact ⟨u, (hb.cell (p := ⟨b, off + j, none⟩) hlt).trans x, y.below22 hb⟩
theorem RdRs.at22 {w : World} {v : Value} {l : List (List Rl)} (h : RdRs w v l) : ∃ a c, v = .slice a l.length c ∧ l.length ≤ c ∧ c ≤ maxLen ∧ ∀ j, j < l.length → ∃ b off u, a = some ⟨b, off, none⟩ ∧ w.cell? ⟨b, off + j, none⟩ = some u ∧ RdR w u (l.getD j []) := by
  obtain ⟨h1, a, c, rfl, hc, hm, h2⟩ := h
  refine ⟨a, c, rfl, hc, hm, fun j hj => ?_⟩
  obtain ⟨b, off, e, hb, hcell⟩ := h2 (by intro e; subst e; simp at hj)
  obtain ⟨u, x, y⟩ := hcell j hj
  exact ⟨b, off, u, e, x, y⟩

def altT : Nat → ByteArray → List Rl → Option ByteArray
  | _, acc, [] => some acc
  | k, acc, r :: q => if relB r.1 r.2.1 r.2.2 = false then none else altT (k + 1) ((if k = 0 then acc else acc ++ ⟨#[32, 124, 32]⟩) ++ txtB r.1 r.2.1 r.2.2) q
def lisT : Nat → ByteArray → List (List Rl) → Option ByteArray
  | _, acc, [] => some acc
  | i, acc, rs :: q => if rs = [] then none else match altT 0 (if i = 0 then acc else acc ++ ⟨#[44, 32]⟩) rs with | none => none | some a => lisT (i + 1) a q
def szR : List Rl → Nat
  | [] => 0
  | r :: q => r.1.size + r.2.2.size + 10 + szR q
def szL : List (List Rl) → Nat
  | [] => 0
  | rs :: q => szR rs + 2 + szL q
def wrA22 (R : Option ByteArray) : Value := match R with | none => .tuple #[.string ⟨#[]⟩, .int .i64 1] | some t => .tuple #[.string t, .int .i64 0]
theorem txtB_size (n : ByteArray) (o : Int) (v : ByteArray) : (txtB n o v).size ≤ n.size + v.size + 6 := by
  unfold txtB
  have := sgF_size o
  split
  · omega
  · simp only [ByteArray.size_append]
    show n.size + 2 + (sgF o).size + 1 + v.size + 1 ≤ _
    omega
theorem alt_size : ∀ (k : Nat) (acc : ByteArray) (rs : List Rl) (t : ByteArray), altT k acc rs = some t → t.size ≤ acc.size + szR rs
  | k, acc, [], t, h => by
    injection h with h
    subst h
    exact Nat.le_add_right _ _
  | k, acc, r :: q, t, h => by
    rw [altT] at h
    split at h
    · cases h
    · have h1 := alt_size _ _ _ _ h
      have h2 := txtB_size r.1 r.2.1 r.2.2
      rw [ByteArray.size_append] at h1
      rw [szR]
      split at h1
      · omega
      · rw [ByteArray.size_append] at h1
        have : (⟨#[32, 124, 32]⟩ : ByteArray).size = 3 := rfl
        omega
theorem szR_drop {rs : List Rl} {k : Nat} (h : k < rs.length) : szR (rs.drop k) = (rs.getD k noRl).1.size + (rs.getD k noRl).2.2.size + 10 + szR (rs.drop (k + 1)) := by
  rw [List.drop_eq_getElem_cons h, szR, List.getD_eq_getElem?_getD, List.getElem?_eq_getElem h]; rfl
theorem szL_drop {l : List (List Rl)} {k : Nat} (h : k < l.length) : szL (l.drop k) = szR (l.getD k []) + 2 + szL (l.drop (k + 1)) := by
  rw [List.drop_eq_getElem_cons h, szL, List.getD_eq_getElem?_getD, List.getElem?_eq_getElem h]; rfl
theorem alt_drop {rs : List Rl} {k : Nat} (acc : ByteArray) (h : k < rs.length) : altT k acc (rs.drop k) = if relB (rs.getD k noRl).1 (rs.getD k noRl).2.1 (rs.getD k noRl).2.2 = false then none else altT (k + 1) ((if k = 0 then acc else acc ++ ⟨#[32, 124, 32]⟩) ++ txtB (rs.getD k noRl).1 (rs.getD k noRl).2.1 (rs.getD k noRl).2.2) (rs.drop (k + 1)) := by
  rw [List.drop_eq_getElem_cons h, altT, List.getD_eq_getElem?_getD, List.getElem?_eq_getElem h]; rfl
theorem lis_drop {l : List (List Rl)} {k : Nat} (acc : ByteArray) (h : k < l.length) : lisT k acc (l.drop k) = if l.getD k [] = [] then none else match altT 0 (if k = 0 then acc else acc ++ ⟨#[44, 32]⟩) (l.getD k []) with | none => none | some a => lisT (k + 1) a (l.drop (k + 1)) := by
  rw [List.drop_eq_getElem_cons h, lisT, List.getD_eq_getElem?_getD, List.getElem?_eq_getElem h]; rfl
end Go.Proofs.YtmfcaoacklbkoaaDoor
