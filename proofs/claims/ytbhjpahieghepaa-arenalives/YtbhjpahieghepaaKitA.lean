/-
  depotkit's Lent, Kept and Over, walked.
  KEEP: set on app at below new trans refl start ap kept rd rds mono row push put step side drew drewN mark weaken less store slice place cell lt prefix setOther
-/
import Derived.Test.YtbhjpahieghepaaAparA
set_option linter.unusedSimpArgs false
set_option linter.unusedVariables false
namespace Go.Proofs.Ytbhjpahieghepaa
open Go Go.RowKit Go.Shelf

attribute [local go_sem] Oper.semAt_some

/-- the marks behind a list that is lent -/
noncomputable def m64 : List Int := (List.range 64).map (mrk 0)
theorem m64_len : m64.length = 64 := by simp [m64]
theorem take_snoc {zs : List Int} {k : Nat} (hk : k < zs.length) : zs.take (k + 1) = zs.take k ++ [zs.getD k 0] := by
  rw [List.take_add_one, List.getD_eq_getElem?_getD]
  simp [hk]
theorem grow_one {B : Nat} {w wr w' : World} {u : Value} {n : Nat} {xs : List Value} {o : Obj} (bel : Below B w wr) (hB : B ≤ w.heap.size) (own : wr.ownsRow B 3 1 u n xs) (hg : (wr.alloc o).grownBy w' u.ownBlock) : Below B w w' :=
  (bel.alloc (Nat.le_trans hB bel.size) o).grown hg (Nat.le_trans hB (bel.alloc (Nat.le_trans hB bel.size) o).size) (fun b e => (World.ownsRow.lt own b e).1)
theorem row_slice1 {B K : Nat} {e : TypeId} {w : World} {x : Value} {xs : List Value} (h : w.ownsRow B e 1 x K xs) : ∃ a c, x = .slice a K c := by
  rcases h.2 with ⟨hv, hn⟩ | ⟨g, cap, cur, hv, _⟩
  · exact ⟨none, 0, by rw [hv, hn]⟩
  · exact ⟨_, _, hv⟩
theorem m64_take {k : Nat} (hk : k < 64) : (List.range (k + 1)).map (mrk 0) = (List.range k).map (mrk 0) ++ [mrk 0 k] := by
  rw [List.range_succ, List.map_append]; rfl

theorem own_at {B : Nat} {w : World} {x : Value} {T : List Int} (h : Own B w x T) {i : Nat} (hi : i < T.length) : ∃ g cap, x = .slice (some ⟨g, 0, none⟩) T.length cap ∧ T.length ≤ cap ∧ w.cell? ⟨g, i, none⟩ = some (.int .i64 (T.getD i 0)) := by
  obtain ⟨g, cap, e, hH, hg, hbase, hncap, hmm⟩ := trown_holds h (by intro h; rw [h] at hi; simp at hi)
  refine ⟨g, cap, e, hncap, ?_⟩
  have := (hH i (by simpa using hi)).1
  simpa [List.getD_eq_getElem?_getD, getElem!_def, Array.getElem?_eq_getElem, hi] using this
theorem cell_app_left {B : Nat} {w : World} {x : Value} {zs ms : List Int} (h : Own B w x (zs ++ ms)) {i : Nat} (hi : i < zs.length) : ∃ g cap, x = .slice (some ⟨g, 0, none⟩) (zs.length + ms.length) cap ∧ zs.length + ms.length ≤ cap ∧ w.cell? ⟨g, i, none⟩ = some (.int .i64 (zs.getD i 0)) := by
  have hl : i < (zs ++ ms).length := by rw [List.length_append]; omega
  have e2 : (zs ++ ms).getD i 0 = zs.getD i 0 := by rw [List.getD_eq_getElem?_getD, List.getD_eq_getElem?_getD, List.getElem?_append_left hi]
  have := own_at h hl
  rwa [e2, List.length_append] at this
theorem cell_app_right {B : Nat} {w : World} {x : Value} {zs ms : List Int} (h : Own B w x (zs ++ ms)) {i : Nat} (hi : i < ms.length) : ∃ g cap, x = .slice (some ⟨g, 0, none⟩) (zs.length + ms.length) cap ∧ zs.length + ms.length ≤ cap ∧ w.cell? ⟨g, zs.length + i, none⟩ = some (.int .i64 (ms.getD i 0)) := by
  have hl : zs.length + i < (zs ++ ms).length := by rw [List.length_append]; omega
  have e2 : (zs ++ ms).getD (zs.length + i) 0 = ms.getD i 0 := by rw [List.getD_eq_getElem?_getD, List.getD_eq_getElem?_getD, List.getElem?_append_right (by omega), Nat.add_sub_cancel_left]
  have := own_at h hl
  rwa [e2, List.length_append] at this
theorem grown_setCell (w : World) (a : Addr) (u : Value) : w.grownBy (w.setCell a u) (some a.block) :=
  ⟨rfl, rfl, rfl, by simp, fun k _ hk => heap_setCell_other w a k u (fun e => hk (by simp [e]))⟩
theorem m64_at {i : Nat} (hi : i < 64) : m64.getD i 0 = mrk 0 i := by
  unfold m64
  rw [List.getD_eq_getElem?_getD, List.getElem?_map, List.getElem?_range hi]
  rfl

end Go.Proofs.Ytbhjpahieghepaa
