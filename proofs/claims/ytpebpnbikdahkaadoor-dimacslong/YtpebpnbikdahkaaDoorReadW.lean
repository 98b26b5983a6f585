/-
  dimacs.Read, walked: texts of ASCII.
  KEEP: set on app at below new trans refl start ap kept rd rds mono grown nil text own form lt rdb tens rdz len cut push whole row
-/
import Derived.Test.YtpebpnbikdahkaaDoorClW
import Derived.Test.YtpebpnbikdahkaaDoorFormAns
set_option linter.unusedSimpArgs false
set_option linter.unusedVariables false
namespace Go.Proofs.YtpebpnbikdahkaaDoor
open Go Go.RowKit

theorem rdF_bad1 {s : List UInt8} (h : nxt 1 (linesOf s) = none) : rdF s = ⟨0, [], 30, (linesOf s).length + 1⟩ := by unfold rdF; rw [h]
theorem rdF_bad2 {s l : List UInt8} {k : Nat} {r : List (List UInt8)} (h : nxt 1 (linesOf s) = some (l, k, r)) (h2 : hdC l = none) : rdF s = ⟨0, [], 30, k⟩ := by unfold rdF; rw [h]; simp only [hdC_eq, h2]
theorem rdF_go {s l : List UInt8} {k : Nat} {r : List (List UInt8)} {v c : Int} (h : nxt 1 (linesOf s) = some (l, k, r)) (h2 : hdC l = some (v, c)) :
    rdF s = if (clE v (k + 1) r).1 ≠ 0 then ⟨0, [], (clE v (k + 1) r).1, (clE v (k + 1) r).2.1⟩ else if ((clE v (k + 1) r).2.2.length : Int) ≠ c then ⟨0, [], 34, (clE v (k + 1) r).2.1⟩ else ⟨v, (clE v (k + 1) r).2.2, 0, 0⟩ := by
  have hn := (nxt_some h).2.1
  have hne : ∀ (ws : List (List UInt8 × Nat)) (op : List Int) (all : List (List Int)) {a o e j}, eat v ws op all = (a, o, some (e, j)) → e ≠ 0 := by
    intro ws
    induction ws with
    | nil => intro op all a o e j h; simp [eat] at h
    | cons x t ih =>
      intro op all a o e j h
      obtain ⟨w, q⟩ := x
      unfold eat at h
      cases hw : numW w with
      | none => rw [hw] at h; simp at h; omega
      | some z =>
        rw [hw] at h
        simp only at h
        split at h
        · exact ih _ _ h
        · split at h
          · simp at h; omega
          · exact ih _ _ h
  unfold rdF
  rw [h]
  simp only [hdC_eq, h2]
  unfold clE
  generalize hE : eat v (spoken (k + 1) r) [] [] = E
  obtain ⟨all, op, x⟩ := E
  cases x with
  | some ej =>
    obtain ⟨e, j⟩ := ej
    have := hne _ _ _ hE
    simp [this]
  | none =>
    simp only
    by_cases hop : op = []
    · subst hop
      simp
      rw [show (linesOf s).length + 1 = k + 1 + r.length by omega]
    · simp [hop]
      omega
theorem Tb.new (W : World) (l r : ByteArray) (k : Int) : Tb (W.alloc (.cells #[.string l, .string r, .int .i64 k] 34)) W.heap.size l r k := World.alloc_heap_new W _
theorem below_by {w W W' : World} {b : Nat} (h : Below w.heap.size w W) (hg : W.grownBy W' (some b)) (hb : w.heap.size ≤ b) : Below w.heap.size w W' :=
  h.grown hg h.size (fun k e => by cases e; exact hb)

end Go.Proofs.YtpebpnbikdahkaaDoor
