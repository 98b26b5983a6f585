/-
  How much Read's stanzas hold at most; the answers as the laws compare them.
  KEEP: below len form out each rd mono nil own row set on app start grown at new one more take none some kept cell refl trans size map made look put blw get step next box lt Ap old weak
-/
import Derived.Test.YtbeaoekbppdlmaaDoorJCtR
import Derived.Test.YtbeaoekbppdlmaaDoorKOpenSt
set_option linter.unusedSimpArgs false
set_option linter.unusedVariables false
namespace Go.Proofs.YtbeaoekbppdlmaaDoor
open Go Go.RowKit

def szS (X Y : Nat) (s : Stz) : Prop := s.2.length ≤ X ∧ ∀ f ∈ s.2, f.1.length ≤ Y ∧ f.2.length ≤ Y
theorem rdS_sz (X Y : Nat) : ∀ (ps : List (List UInt8)) (k : Int) (out : List Stz) (now : Stz) (U : Nat) (l : List Stz), (∀ f ∈ now.2, f.1.length ≤ U ∧ f.2.length ≤ U) → (∀ s ∈ out, szS X Y s) → U + totL ps ≤ Y → now.2.length + ps.length ≤ X → rdS ps k out now = .ok l → (∀ s ∈ l, szS X Y s) ∧ l.length ≤ out.length + ps.length + 1
  | [], k, out, now, U, l, hU, ho, hY, hX, h => by
    have hn : szS X Y now := ⟨by simpa using hX, fun f hf => by have := hU f hf; simp [totL] at hY; omega⟩
    rw [rdS] at h
    injection h with h
    subst h
    split
    · exact ⟨ho, by omega⟩
    · refine ⟨fun s hs => ?_, by simp⟩
      rcases List.mem_append.1 hs with hs | hs
      · exact ho s hs
      · rw [List.mem_singleton.1 hs]; exact hn
  | line :: r, k, out, now, U, l, hU, ho, hY, hX, h => by
    have hn : szS X Y now := ⟨by simp at hX; omega, fun f hf => by have := hU f hf; omega⟩
    rw [totL] at hY
    simp only [List.length_cons] at hX ⊢
    rw [rdS] at h
    split at h
    · cases h
    · split at h
      · have := rdS_sz X Y r _ _ _ U l (fun f hf => by cases hf) (fun s hs => ?_) (by omega) (by simp; omega) h
        · refine ⟨this.1, ?_⟩
          have h2 := this.2
          split at h2
          · omega
          · rw [List.length_append] at h2; simp only [List.length_cons, List.length_nil] at h2; omega
        · split at hs
          · exact ho s hs
          · rcases List.mem_append.1 hs with hs | hs
            · exact ho s hs
            · rw [List.mem_singleton.1 hs]; exact hn
      · split at h
        · have := rdS_sz X Y r _ _ _ U l hU ho (by omega) (by omega) h
          exact ⟨this.1, by omega⟩
        · split at h
          · cases h
          · rename_i n hst
            obtain ⟨ln, fs⟩ := now
            have hs2 := stepP_size hst hU
            have := rdS_sz X Y r _ _ _ (U + line.length + 1) l hs2.1 ho (by omega) (by have h3 := hs2.2; have hX2 : fs.length + (r.length + 1) ≤ X := hX; omega) h
            exact ⟨this.1, by omega⟩
theorem rdF_sz {s : List UInt8} {l : List Stz} (h : rdF21 s = .ok l) : (∀ x ∈ l, szS (s.length + 1) (s.length + 1) x) ∧ l.length ≤ s.length + 2 := by
  have h1 := tot_lns s []
  have h2 := len_lns s []
  simp only [List.length_nil] at h1
  obtain ⟨q1, q2⟩ := rdS_sz (s.length + 1) (s.length + 1) _ _ _ _ 0 l (fun f hf => by cases hf) (fun x hx => by cases hx) (by omega) (by simp; omega) h
  exact ⟨q1, by simp at q2; omega⟩
/-- what Read's answers are, where a text is at most so long -/
theorem rd_ans {B : Nat} {w w' : World} {e : Ending} {s : List UInt8} (hs : s.length ≤ 1099511627776) (h : RdAns B w w' e (rdF21 s)) :
    (∃ c ln, rdF21 s = .error (c, ln) ∧ e = .returned (.tuple #[.slice none 0 0, .int .i64 c, .int .i64 ln]) ∧ Below B w w') ∨ (∃ v l, rdF21 s = .ok l ∧ e = .returned (.tuple #[v, .int .i64 0, .int .i64 0]) ∧ RdSt w' v l ∧ Below B w w' ∧ ∃ L, OwnSt B w' v L ∧ sgS L = l) := by
  cases hr : rdF21 s with
  | error p =>
    rw [hr] at h
    exact .inl ⟨p.1, p.2, rfl, h.1, h.2⟩
  | ok l =>
    rw [hr] at h
    obtain ⟨v, L, he, ho, hL, hb⟩ := h
    have hz := rdF_sz hr
    refine .inr ⟨v, l, rfl, he, ?_, hb, L, ho, hL⟩
    have hl : L.length = l.length := by rw [← hL]; simp [sgS]
    have := ho.rd (by omega) fun x hx => by
      have hm : (x.1, x.2.2) ∈ l := by rw [← hL]; exact List.mem_map.2 ⟨x, hx, rfl⟩
      obtain ⟨a1, a2⟩ := hz.1 _ hm
      simp only at a1 a2
      exact ⟨by omega, fun f hf => by have := a2 f hf; omega⟩
    rwa [hL] at this

end Go.Proofs.YtbeaoekbppdlmaaDoor
