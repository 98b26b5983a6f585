/-
  The document's one: the relation that begins at a place, walked.
  KEEP: off c0 c1 c2 c3 c4 s0 s1 s2 s3 s4 newS rds lt f t q x len below nil form rd mono on app start at new trans refl kept own row out grown rdz set one more lt size cell some none letL tail next step go add put del get look no yes e c f b k n m box
-/
import Derived.Test.YtmfcaoacklbkoaaDoorRlQ
import Derived.Deep.RegionLaw
set_option linter.unusedSimpArgs false
set_option linter.unusedVariables false
namespace Go.Proofs.YtmfcaoacklbkoaaDoor
open Go Go.RowKit

theorem opF_range (T : ByteArray) : 0 ≤ opF T ∧ opF T < 6 := by unfold opF; repeat' split; all_goals omega
theorem opF_sg {j : Int} (h1 : 1 ≤ j) (h2 : j ≤ 5) : opF (sgF j) = j := by
  have : j = 1 ∨ j = 2 ∨ j = 3 ∨ j = 4 ∨ j = 5 := by omega
  rcases this with rfl | rfl | rfl | rfl | rfl <;> rfl
theorem opF_iff {j : Int} (h1 : 1 ≤ j) (h2 : j ≤ 5) {T : ByteArray} (h : opF T = j) : sgF j = T := by
  unfold opF at h
  repeat' split at h
  all_goals first | (exfalso; omega) | (subst h; rename_i e; rw [e]; rfl)
theorem ba22 {a b : ByteArray} (h : a.toList = b.toList) : a = b := by
  rw [ByteArray.toList_eq, ByteArray.toList_eq] at h
  cases a; cases b
  have h2 := Array.toList_inj.1 h
  simp at h2; rw [h2]
theorem ba22_ne {a b : ByteArray} (h : ¬ a = b) : (a.toList == b.toList) = false := beq_eq_false_iff_ne.2 fun e => h (ba22 e)
def onV (r : On1) : Value := .tuple #[.agg #[.string r.n, .int .i64 r.o, .string r.v], .int .i64 r.e, .int .i64 r.k]
theorem ret_rq {fn : Func} {p u x : Tmp} {tmps : Array Value} {W : World} {D : Nat} {n v : ByteArray} {o : Int} (h : fn.results = #[.cell p 34, .tmp u, .tmp x]) (hp : tmps.getD p undef = .pointer (some ⟨D, 0, none⟩)) (hb : Rq W D n o v) :
    (results fn tmps).run Tryd.prog W = .ok (.tuple #[.agg #[.string n, .int .i64 o, .string v], tmps.getD u undef, tmps.getD x undef]) W := by
  have c0 := hb.c0
  have c1 := hb.c1
  have c2 := hb.c2
  simp only [Array.getD_eq_getD_getElem?] at hp ⊢
  simp [results, h, hp, go_sem, c0, c1, c2]
end Go.Proofs.YtmfcaoacklbkoaaDoor
