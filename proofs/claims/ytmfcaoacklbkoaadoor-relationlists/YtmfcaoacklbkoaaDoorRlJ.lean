/-
  The document's Write of relations, walked.
  KEEP: off c0 c1 c2 c3 c4 s0 s1 s2 s3 s4 newS rds lt f t q x lisF head22 put22 cellAt22 OwnR OwnRs St22 LsAns RdR RdRs all22 below22 at22 blw Ap put_app step_append_apk len below nil form rd mono on app start at new trans refl kept own row out grown rdz set one more lt size cell some none letL tail next step go add put del get look no yes e c f b k n m box take each block shape os tape output setCell heap alloc addr last blk drew keep done
-/
import Derived.Test.YtmfcaoacklbkoaaDoorRlI
set_option linter.unusedSimpArgs false
set_option linter.unusedVariables false
namespace Go.Proofs.YtmfcaoacklbkoaaDoor
open Go Go.RowKit

theorem RdRs.all22 {w : World} {a : Option Addr} {c k : Nat} {l : List (List Rl)} (h : RdRs w (.slice a l.length c) l) (hk : k < l.length) :
    ∃ b off au cu, a = some ⟨b, off, none⟩ ∧ (l.getD k []).length ≤ cu ∧ cu ≤ maxLen ∧ (∀ W', Below w.heap.size w W' → W'.cell? ⟨b, off + k, none⟩ = some (.slice au (l.getD k []).length cu)) ∧
      (l.getD k [] ≠ [] → ∃ b2 off2, au = some ⟨b2, off2, none⟩ ∧ ∀ j, j < (l.getD k []).length → ∀ W', Below w.heap.size w W' → W'.cell? ⟨b2, off2 + j * 3, none⟩ = some (.string ((l.getD k []).getD j noRl).1) ∧ W'.cell? ⟨b2, off2 + j * 3 + 1, none⟩ = some (.int .i64 ((l.getD k []).getD j noRl).2.1) ∧ W'.cell? ⟨b2, off2 + j * 3 + 2, none⟩ = some (.string ((l.getD k []).getD j noRl).2.2)) := by
  obtain ⟨h1, a', c', e, hc, hm, h2⟩ := h
  injection e with q1 q2 q3
  subst q1
  obtain ⟨b, off, rfl, hlt, hcell⟩ := h2 (by intro e; subst e; simp at hk)
  obtain ⟨u, x, y⟩ := hcell k hk
  obtain ⟨y1, au, cu, rfl, yc, ym, y2⟩ := y
  refine ⟨b, off, au, cu, rfl, yc, ym, fun W' hb => (hb.cell (p := ⟨b, off + k, none⟩) hlt).trans x, fun hne => ?_⟩
  obtain ⟨b2, off2, e2, hl2, hc2⟩ := y2 hne
  refine ⟨b2, off2, e2, fun j hj W' hb => ?_⟩
  obtain ⟨p1, p2, p3⟩ := hc2 j hj
  exact ⟨(hb.cell (p := ⟨b2, off2 + j * 3, none⟩) hl2).trans p1, (hb.cell (p := ⟨b2, off2 + j * 3 + 1, none⟩) hl2).trans p2, (hb.cell (p := ⟨b2, off2 + j * 3 + 2, none⟩) hl2).trans p3⟩

end Go.Proofs.YtmfcaoacklbkoaaDoor
