/-
  dimacs.clauses, walked.
  KEEP: set on app at below new trans refl start ap kept rd rds mono
-/
import Derived.Test.YtpebpnbikdahkaaDoorHeadW
import Derived.Test.YtpebpnbikdahkaaDoorApp2
import Derived.Test.YtpebpnbikdahkaaDoorConcat
import Derived.Deep.LoopGhost
set_option linter.unusedSimpArgs false
set_option linter.unusedVariables false
namespace Go.Proofs.YtpebpnbikdahkaaDoor
open Go Go.RowKit

theorem nxt_some : ∀ {ls : List (List UInt8)} {k k' : Nat} {l : List UInt8} {r : List (List UInt8)}, nxt k ls = some (l, k', r) → spoken k ls = (wordsOf l).map (fun w => (w, k')) ++ spoken (k' + 1) r ∧ k' + 1 + r.length = k + ls.length ∧ k ≤ k'
  | [], k, k', l, r, h => by simp [nxt] at h
  | x :: t, k, k', l, r, h => by
    unfold nxt at h
    cases hx : idleL x
    · rw [hx] at h
      simp at h
      obtain ⟨rfl, rfl, rfl⟩ := h
      refine ⟨by simp [spoken, hx], by simp; omega, Nat.le_refl _⟩
    · rw [hx] at h
      simp at h
      obtain ⟨h1, h2, h3⟩ := nxt_some h
      refine ⟨by simp [spoken, hx, h1], by simp; omega, by omega⟩
theorem nxt_none : ∀ {ls : List (List UInt8)} {k : Nat}, nxt k ls = none → spoken k ls = []
  | [], k, h => rfl
  | x :: t, k, h => by
    unfold nxt at h
    cases hx : idleL x
    · rw [hx] at h; simp at h
    · rw [hx] at h
      simp at h
      simp [spoken, hx, nxt_none h]
/-- what clauses answers: the error, its line, the clauses -/
def clE (v : Int) (k : Nat) (ls : List (List UInt8)) : Int × Nat × List (List Int) :=
  match eat v (spoken k ls) [] [] with
  | (all, _, some (e, j)) => (e, j, all)
  | (all, op, none) => (if op ≠ [] then 33 else 0, k + ls.length, all)
theorem Tb.not_row {W : World} {b : Nat} {l r : ByteArray} {k : Int} (h : Tb W b l r k) {base e s n : Nat} {v : Value} {xs : List Value} (hr : W.ownsRow base e s v n xs) (he : e ≠ 34) : some b ≠ v.ownBlock := fun e' => by
  rcases hr.2 with ⟨rfl, _⟩ | ⟨g, cap, cur, rfl, _, hh, _⟩
  · cases e'
  · cases e'
    rw [show W.heap[g]? = _ from h] at hh
    injection hh with hh
    injection hh with _ e2
    exact he e2.symm
theorem Tb.kept {W W' : World} {b : Nat} {l r : ByteArray} {k : Int} {row : Option Nat} (h : Tb W b l r k) (hg : W.grownBy W' row) (hne : some b ≠ row) : Tb W' b l r k := (hg.block b h.lt hne).trans h
theorem grown_own {w W W' : World} {b : Nat} {r : Option Nat} (h : w.grownBy W (some b)) (hg : W.grownBy W' r) (hr : ∀ g, r = some g → w.heap.size ≤ g) : w.grownBy W' (some b) :=
  ⟨hg.os.trans h.os, hg.tape.trans h.tape, hg.output.trans h.output, Nat.le_trans h.size hg.size, fun k hk hne => (hg.block k (Nat.lt_of_lt_of_le hk h.size) (fun e => by have := hr k e.symm; omega)).trans (h.block k hk hne)⟩
theorem rd_new (w : World) (z : Int) : Rd (w.alloc (.cells #[.int .i64 z] 3)) (.slice (some ⟨w.heap.size, 0, none⟩) 1 1) [z] := by
  have hh := World.alloc_heap_new w (.cells #[.int .i64 z] 3)
  refine ⟨by simp, some ⟨w.heap.size, 0, none⟩, 1, rfl, by simp, by unfold maxLen; omega, by simp, fun _ => ⟨w.heap.size, 0, rfl, by rw [World.size_alloc]; omega, fun j hj => ?_⟩⟩
  have : j = 0 := by simpa using hj
  subst this
  show (match (w.alloc (.cells #[.int .i64 z] 3)).heap[w.heap.size]? with | some (Obj.cells c elem frozen) => c[0 + 0]? | x => none) = _
  rw [hh]; rfl
theorem own_cut0 {B : Nat} {w : World} {g n c : Nat} {op : List Int} (h : Own B w (.slice (some ⟨g, 0, none⟩) n c) op) : Own B w (.slice (some ⟨g, 0, none⟩) 0 c) [] := by
  refine ⟨rfl, ?_⟩
  rcases h.2 with ⟨e, _⟩ | ⟨g', cap, cur, e, hb', hh, h1, h2, h3, h4⟩
  · cases e
  · injection e with e1 e2 e3
    injection e1 with e1
    injection e1 with e1
    subst e1; subst e3
    exact .inr ⟨g, c, cur, rfl, hb', hh, Nat.zero_le _, h2, h3, by simp⟩
theorem own_shape {B : Nat} {w : World} {v : Value} {op : List Int} (h : Own B w v op) : (v = .slice none 0 0 ∧ op = []) ∨ ∃ g c, v = .slice (some ⟨g, 0, none⟩) op.length c ∧ op.length ≤ c ∧ c ≤ maxLen := by
  rcases h.2 with ⟨rfl, e⟩ | ⟨g', cap, cur, rfl, hb', hh, h1, h2, h3, h4⟩
  · exact .inl ⟨rfl, List.eq_nil_of_length_eq_zero e⟩
  · exact .inr ⟨g', cap, rfl, h1, h2⟩

end Go.Proofs.YtpebpnbikdahkaaDoor
