/-
  The program's Read, ReadList, walked.
  KEEP: off c0 c1 c2 c3 c4 s0 s1 s2 s3 s4 newS rds lt f t q x walk lisF LsAns Ap blw put22 OwnR OwnRs len below nil form rd mono on app start at new trans refl kept own row out grown rdz set one more lt size cell some none letL tail next step go add put del get look no yes e c f b k n m box c0 c1 c2 s0 s1 s2 s3 newS drewN x t q done keep lk22 st22
-/
import Derived.Test.YtmfcaoacklbkoaaDoorRlZ
set_option linter.unusedSimpArgs false
set_option linter.unusedVariables false
namespace Go.Proofs.YtmfcaoacklbkoaaDoor
open Go Go.RowKit

theorem blw_of_gr22 {w w' : World} {o : Obj} (h : (w.alloc o).grownBy w' (some w.heap.size)) : Below w.heap.size w w' := by
  have hsn : (w.alloc o).heap.size = w.heap.size + 1 := by simp
  refine ⟨h.os, h.tape, h.output, ?_, fun k hk => (h.block k (by omega) (fun e => by injection e with e; omega)).trans (Below.heap_alloc w o k hk)⟩
  have := h.size
  omega
theorem whL_eq (s : ByteArray) : whL s = lstF s true := (lstF_true s).symm
theorem whP_eq (s : ByteArray) : lisF (lstF s false) = (match whP s with | .error p => ([], p.1, p.2) | .ok l => (l, 0, 0)) := by
  rw [lstF_false]
  unfold whP
  split
  · rfl
  · cases whF s (sevF s 44 (s.size + 1) (runF gapZ s.data.toList 0) []) with
    | error p => rfl
    | ok l => simp [lisF, Function.comp_def]
set_option maxHeartbeats 1600000 in
set_option maxRecDepth 20000 in
theorem pRead22 (s : ByteArray) (w : World) (hT : OpT w) (hs : s.size ≤ 1099511627776) :
    Calls Tryd.prog 8 #[.string s] w fun e w' => LsAns w.heap.size w w' e (lstF s true) := by
  have hb : Below w.heap.size w (w.alloc (.cells #[.string s, .int .i64 0] 59)) := Below.alloc (Below.refl _ _) (Nat.le_refl _) _
  have HW : Hid (Calls Tryd.prog 29 #[.pointer (some ⟨w.heap.size, 0, none⟩), .func (.func 30) #[.pointer (some ⟨w.heap.size, 0, none⟩)] #[]] (w.alloc (.cells #[.string s, .int .i64 0] 59)) fun e w' => WlAns (w.alloc (.cells #[.string s, .int .i64 0] 59)).heap.size (w.alloc (.cells #[.string s, .int .i64 0] 59)) w' e w.heap.size (whL s)) := wholeL22 s w.heap.size _ (Rx.new w s 0) (hT.blw hb) hs
  rw [whL_eq] at HW
  clear hb hT
  generalize lstF s true = R at *
  go_enter Tryd.func8, Tryd.ntmps8
  go_wp2_with fail
  refine HW.out.mono ?_
  intro e w1 h1
  cases R with
  | error p =>
    obtain ⟨rfl, h2⟩ := h1
    have HB : Hid (Below w.heap.size w w1) := blw_of_gr22 h2
    clear h2 HW
    go_wp2
    go_returns
    exact ⟨rfl, HB.out⟩
  | ok l =>
    obtain ⟨v, L, rfl, h2, h3, h4⟩ := h1
    have HB : Hid (Below w.heap.size w w1) := blw_of_gr22 h4
    have HO : Hid (OwnRs w.heap.size w1 v L) := h2.mono (by simp)
    have HL : Hid (rgS L = l) := h3
    clear h2 h3 h4 HW
    go_wp2
    go_returns
    exact ⟨v, L, rfl, HO.out, HL.out, HB.out⟩
set_option maxHeartbeats 1600000 in
set_option maxRecDepth 20000 in
theorem pReadList22 (s : ByteArray) (w : World) (hT : OpT w) (hs : s.size ≤ 1099511627776) :
    Calls Tryd.prog 9 #[.string s] w fun e w' => ∃ v, e = .returned (.tuple #[v, .int .i64 (lisF (lstF s false)).2.1, .int .i64 (lisF (lstF s false)).2.2]) ∧ OwnR w.heap.size w' v (lisF (lstF s false)).1 ∧ Below w.heap.size w w' := by
  have hb : Below w.heap.size w (w.alloc (.cells #[.string s, .int .i64 0] 59)) := Below.alloc (Below.refl _ _) (Nat.le_refl _) _
  have HW : Hid (Calls Tryd.prog 31 #[.pointer (some ⟨w.heap.size, 0, none⟩), .func (.func 32) #[.pointer (some ⟨w.heap.size, 0, none⟩)] #[]] (w.alloc (.cells #[.string s, .int .i64 0] 59)) fun e w' => WpAns (w.alloc (.cells #[.string s, .int .i64 0] 59)).heap.size (w.alloc (.cells #[.string s, .int .i64 0] 59)) w' e w.heap.size (whP s)) := wholeP22 s w.heap.size _ (Rx.new w s 0) (hT.blw hb) hs
  rw [whP_eq]
  clear hb hT
  generalize whP s = R at *
  go_enter Tryd.func9, Tryd.ntmps9
  go_wp2_with fail
  refine HW.out.mono ?_
  intro e w1 h1
  cases R with
  | error p =>
    obtain ⟨rfl, h2⟩ := h1
    have HB : Hid (Below w.heap.size w w1) := blw_of_gr22 h2
    clear h2 HW
    go_wp2
    go_returns
    exact ⟨_, rfl, OwnR.nil _ _, HB.out⟩
  | ok l =>
    obtain ⟨v, rfl, h2, h4⟩ := h1
    have HB : Hid (Below w.heap.size w w1) := blw_of_gr22 h4
    have HO : Hid (OwnR w.heap.size w1 v l) := row_mono h2 (by simp)
    clear h2 h4 HW
    go_wp2
    go_returns
    exact ⟨v, rfl, HO.out, HB.out⟩

end Go.Proofs.YtmfcaoacklbkoaaDoor
