/-
  What Read and ReadList of relations answer, as slices that are read.
  KEEP: off c0 c1 c2 c3 c4 s0 s1 s2 s3 s4 newS rds lt f t q x walk lisF LsAns Ap blw put22 OwnR OwnRs len below nil form rd mono on app start at new trans refl kept own row out grown rdz set one more lt size cell some none letL tail next step go add put del get look no yes e c f b k n m box c0 c1 c2 s0 s1 s2 s3 newS drewN x t q done keep lk22 st22 below22 at22 RdR RdRs rd22
-/
import Derived.Test.YtmfcaoacklbkoaaDoorRlK
import Derived.Test.YtmfcaoacklbkoaaDoorRmB
set_option linter.unusedSimpArgs false
set_option linter.unusedVariables false
namespace Go.Proofs.YtmfcaoacklbkoaaDoor
open Go Go.RowKit

theorem lst_each {s : ByteArray} {bars : Bool} : ∀ (f k : Nat) (out : List (List Rl)) (now : List Rl) (l : List (List Rl)), k ≤ s.size → now.length ≤ k → (∀ x ∈ out, x.length ≤ s.size) → lstS s bars f k out now = .ok l → ∀ x ∈ l, x.length ≤ s.size
  | 0, k, out, now, l, hk, hn, ho, h, x, hx => by
    injection h with h
    subst h
    cases hx
  | f + 1, k, out, now, l, hk, hn, ho, h, x, hx => by
    rw [lstS] at h
    split at h
    · cases h
    rename_i he
    obtain ⟨_, _, hq, hqs⟩ := one_ok22 hk (Classical.not_not.1 he)
    have ho2 : ∀ r : Rl, ∀ y ∈ out ++ [now ++ [r]], y.length ≤ s.size := fun r y hy => by
      rcases List.mem_append.1 hy with hy | hy
      · exact ho y hy
      · obtain rfl := List.mem_singleton.1 hy
        simp; omega
    have hgo : ∀ Z : Int, 0 ≤ Z → atB s (oneF s k).k = Z → k < runF gapZ s.data.toList ((oneF s k).k + 1) ∧ runF gapZ s.data.toList ((oneF s k).k + 1) ≤ s.size := fun Z h0 hz => by
      have hlt : (oneF s k).k < s.size := by
        apply Classical.byContradiction
        intro hn; rw [atB_out hn] at hz; omega
      have h1 := runF_le22 gapZ s (k := (oneF s k).k + 1) (by omega)
      have h2 := runF_ge gapZ s.data.toList ((oneF s k).k + 1)
      exact ⟨by omega, h1⟩
    split at h
    · rename_i hb
      obtain ⟨h1, h2⟩ := hgo 124 (by decide) hb.1
      exact lst_each f _ _ _ _ h2 (by simp; omega) ho h x hx
    split at h
    · injection h with h
      subst h
      exact ho2 _ x hx
    split at h
    · cases h
    · rename_i hc
      obtain ⟨h1, h2⟩ := hgo 44 (by decide) (Classical.not_not.1 hc)
      exact lst_each f _ _ _ _ h2 (by simp) (ho2 _) h x hx
theorem lstF_each {s : ByteArray} {bars : Bool} {l : List (List Rl)} (h : lstF s bars = .ok l) : ∀ x ∈ l, x.length ≤ s.size := by
  unfold lstF at h
  split at h
  · injection h with h
    subst h
    intro x hx
    cases hx
  · exact lst_each _ _ _ _ _ (runF_le22 gapZ s (Nat.zero_le _)) (Nat.zero_le _) (fun x hx => by cases hx) h
/-- the error, the place, the lists -/
def lsE (R : Except (Int × Int) (List (List Rl))) : Int := match R with | .error p => p.1 | .ok _ => 0
def lsQ (R : Except (Int × Int) (List (List Rl))) : Int := match R with | .error p => p.2 | .ok _ => 0
def lsL (R : Except (Int × Int) (List (List Rl))) : List (List Rl) := match R with | .error _ => [] | .ok l => l
theorem RdRs.nil22 (W : World) : RdRs W (.slice none 0 0) [] := ⟨by simp, none, 0, rfl, by simp, by unfold maxLen; omega, fun h => absurd rfl h⟩
theorem RdR.nil22 (W : World) : RdR W (.slice none 0 0) [] := ⟨by simp, none, 0, rfl, by simp, by unfold maxLen; omega, fun h => absurd rfl h⟩
theorem OwnRs.len22 {B : Nat} {W : World} {v : Value} {L : List RG} {l : List (List Rl)} (h : OwnRs B W v L) (hl : rgS L = l) : L.length = l.length := by rw [← hl]; simp [rgS]
/-- what Read answers, with what may be said of it later -/
theorem ls_rd22 {B : Nat} {w w' : World} {e : Ending} {s : ByteArray} {bars : Bool} (h : LsAns B w w' e (lstF s bars)) (hs : s.size ≤ 1099511627776) :
    ∃ v L, e = .returned (.tuple #[v, .int .i64 (lsE (lstF s bars)), .int .i64 (lsQ (lstF s bars))]) ∧ OwnRs B w' v L ∧ rgS L = lsL (lstF s bars) ∧ RdRs w' v (lsL (lstF s bars)) ∧ Below B w w' := by
  have h1 := fun l (q : lstF s bars = .ok l) => lstF_len q
  have h2 := fun l (q : lstF s bars = .ok l) => lstF_each q
  generalize lstF s bars = R at *
  cases R with
  | error p =>
    obtain ⟨rfl, hb⟩ := h
    exact ⟨_, [], rfl, OwnRs.nil _ _, rfl, RdRs.nil22 _, hb⟩
  | ok l =>
    obtain ⟨v, L, rfl, ho, hl, hb⟩ := h
    have h3 := h1 l rfl
    have h4 := h2 l rfl
    have h5 := ho.len22 hl
    refine ⟨v, L, rfl, ho, hl, ?_, hb⟩
    show RdRs w' v l
    rw [← hl]
    refine ho.rd22 (by omega) (fun x hx => ?_)
    have := h4 x.2 (by rw [← hl]; exact List.mem_map.2 ⟨x, hx, rfl⟩)
    omega
theorem lisF_len {s : ByteArray} : (lisF (lstF s false)).1.length ≤ s.size := by
  have h1 := fun l (q : lstF s false = .ok l) => lstF_len q
  generalize lstF s false = R at *
  cases R with
  | error p => exact Nat.zero_le _
  | ok l => have := h1 l rfl; simpa [lisF] using this

end Go.Proofs.YtmfcaoacklbkoaaDoor
