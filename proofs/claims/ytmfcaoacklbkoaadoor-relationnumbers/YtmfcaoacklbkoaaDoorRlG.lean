/-
  The document's Read and ReadList of relations, walked.
  KEEP: off c0 c1 c2 c3 c4 s0 s1 s2 s3 s4 newS rds lt f t q x lisF head22 put22 cellAt22 OwnR OwnRs St22 LsAns blw Ap put_app step_append_apk len below nil form rd mono on app start at new trans refl kept own row out grown rdz set one more lt size cell some none letL tail next step go add put del get look no yes e c f b k n m box take each block shape os tape output setCell heap alloc addr last blk drew keep done
-/
import Derived.Test.YtmfcaoacklbkoaaDoorRlF
set_option linter.unusedSimpArgs false
set_option linter.unusedVariables false
namespace Go.Proofs.YtmfcaoacklbkoaaDoor
open Go Go.RowKit

theorem lst_ne {s : ByteArray} {bars : Bool} : ∀ (f k : Nat) (out : List (List Rl)) (now : List Rl) (l : List (List Rl)), (∀ x ∈ out, x ≠ []) → lstS s bars f k out now = .ok l → ∀ x ∈ l, x ≠ []
  | 0, k, out, now, l, ho, h, x, hx => by
    injection h with h
    subst h
    cases hx
  | f + 1, k, out, now, l, ho, h, x, hx => by
    have ho2 : ∀ r : Rl, ∀ y ∈ out ++ [now ++ [r]], y ≠ [] := fun r y hy => by
      rcases List.mem_append.1 hy with hy | hy
      · exact ho y hy
      · obtain rfl := List.mem_singleton.1 hy
        simp
    rw [lstS] at h
    split at h
    · cases h
    split at h
    · exact lst_ne f _ _ _ _ ho h x hx
    split at h
    · injection h with h
      subst h
      exact ho2 _ x hx
    split at h
    · cases h
    · exact lst_ne f _ _ _ _ (ho2 _) h x hx
theorem lstF_ne {s : ByteArray} {bars : Bool} {l : List (List Rl)} (h : lstF s bars = .ok l) : ∀ x ∈ l, x ≠ [] := by
  unfold lstF at h
  split at h
  · injection h with h
    subst h
    intro x hx
    cases hx
  · exact lst_ne _ _ _ _ _ (fun x hx => by cases hx) h
theorem lst_len {s : ByteArray} {bars : Bool} : ∀ (f k : Nat) (out : List (List Rl)) (now : List Rl) (l : List (List Rl)), k ≤ s.size → out.length ≤ k → lstS s bars f k out now = .ok l → l.length ≤ s.size
  | 0, k, out, now, l, hk, ho, h => by
    injection h with h
    subst h
    exact Nat.zero_le _
  | f + 1, k, out, now, l, hk, ho, h => by
    rw [lstS] at h
    split at h
    · cases h
    rename_i he
    obtain ⟨_, _, hq, hqs⟩ := one_ok22 hk (Classical.not_not.1 he)
    split at h
    · rename_i hb
      have hlt : (oneF s k).k < s.size := by
        apply Classical.byContradiction
        intro hn; rw [atB_out hn] at hb; exact absurd hb.1 (by decide)
      have h1 := runF_le22 gapZ s (k := (oneF s k).k + 1) (by omega)
      have h2 := runF_ge gapZ s.data.toList ((oneF s k).k + 1)
      exact lst_len f _ _ _ _ h1 (by omega) h
    split at h
    · injection h with h
      subst h
      simp; omega
    rename_i hnl
    split at h
    · cases h
    · have h1 := runF_le22 gapZ s (k := (oneF s k).k + 1) (by omega)
      have h2 := runF_ge gapZ s.data.toList ((oneF s k).k + 1)
      exact lst_len f _ _ _ _ h1 (by simp; omega) h
theorem lstF_len {s : ByteArray} {bars : Bool} {l : List (List Rl)} (h : lstF s bars = .ok l) : l.length ≤ s.size := by
  unfold lstF at h
  split at h
  · injection h with h
    subst h
    exact Nat.zero_le _
  · exact lst_len _ _ _ _ _ (runF_le22 gapZ s (Nat.zero_le _)) (Nat.zero_le _) h
abbrev noRl : Rl := (⟨#[]⟩, 0, ⟨#[]⟩)
/-- what ReadList comes to -/
def lisF (R : Except (Int × Int) (List (List Rl))) : List Rl × Int × Int :=
  match R with
  | .error p => ([], p.1, p.2)
  | .ok l => (l.map (fun x => x.headD noRl), 0, 0)
theorem OwnRs.cellAt22 {B : Nat} {W : World} {a : Option Addr} {c : Nat} {L : List RG} (h : OwnRs B W (.slice a L.length c) L) {j : Nat} (hj : j < L.length) :
    ∃ g, a = some ⟨g, 0, none⟩ ∧ g < W.heap.size ∧ W.cell? ⟨g, j, none⟩ = some (L.getD j (undef, [])).1 := by
  have h1 := h.row
  have hd : (rgC L)[j]? = some (L.getD j (undef, [])).1 := by
    unfold rgC
    rw [List.getElem?_map, List.getElem?_eq_getElem hj, List.getD_eq_getElem?_getD, List.getElem?_eq_getElem hj]; rfl
  rcases h1.2 with ⟨e, hn⟩ | ⟨g, cap, cur, hv, hg, hh, r⟩
  · omega
  · injection hv with h2 h3 h4
    subst h2; subst h4
    have h5 := World.ownsRow.cellAt h1 j (by omega)
    rw [hd] at h5
    exact ⟨g, rfl, (Array.getElem?_eq_some_iff.1 hh).1, by simpa using h5⟩
theorem OwnR.head22 {B : Nat} {W : World} {v : Value} {rs : List Rl} (h : OwnR B W v rs) (hne : rs ≠ []) :
    ∃ g c, v = .slice (some ⟨g, 0, none⟩) rs.length c ∧ g < W.heap.size ∧ W.cell? ⟨g, 0, none⟩ = some (.string (rs.headD noRl).1) ∧ W.cell? ⟨g, 1, none⟩ = some (.int .i64 (rs.headD noRl).2.1) ∧ W.cell? ⟨g, 2, none⟩ = some (.string (rs.headD noRl).2.2) := by
  cases rs with
  | nil => exact absurd rfl hne
  | cons x r =>
    rcases h.2 with ⟨e, hn⟩ | ⟨g, cap, cur, rfl, hg, hh, q⟩
    · simp at hn
    · have h0 := World.ownsRow.cellAt h 0 (by simp <;> omega)
      have h1 := World.ownsRow.cellAt h 1 (by simp <;> omega)
      have h2 := World.ownsRow.cellAt h 2 (by simp <;> omega)
      exact ⟨g, cap, rfl, (Array.getElem?_eq_some_iff.1 hh).1, by simpa [relC] using h0, by simpa [relC] using h1, by simpa [relC] using h2⟩
theorem OwnR.put22 {B : Nat} {W w8 : World} {v v8 : Value} {N : List Rl} {o : Obj} {r : Rl} (h : OwnR B W v N) (own8 : w8.ownsRow B 34 3 v8 (N.length + 1) (relC N ++ [.string r.1, .int .i64 r.2.1, .string r.2.2])) :
    OwnR B w8 v8 (N ++ [r]) ∧ ∃ a8 c8, v8 = .slice a8 (N.length + 1) c8 := ⟨by unfold OwnR; rw [relC_snoc]; simpa using own8, row_form22 own8⟩
end Go.Proofs.YtmfcaoacklbkoaaDoor
