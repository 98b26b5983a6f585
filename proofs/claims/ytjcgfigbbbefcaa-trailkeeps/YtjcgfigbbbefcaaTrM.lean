/-
  trail: Marks.
  KEEP: set on app at below new trans refl start ap kept rd rds mono
-/
import Derived.Test.YtjcgfigbbbefcaaTrN
set_option linter.unusedSimpArgs false
set_option linter.unusedVariables false
namespace Go.Proofs.Ytjcgfigbbbefcaa
open Go Go.RowKit

def mks (R : List Pl) : List Int := (decs 0 R).map fun q => (q.1 : Int)
theorem mks_len (R : List Pl) : (mks R).length = now R := by simp [mks, decs_len]
theorem made_cap (n : Nat) (hn : n ≤ 1048576) (w : World) :
    (Instr.makeSlice 36 (.int .i64 0) (.int .i64 (n : Int))).run Try.prog w = .ok (.slice (some ⟨w.heap.size, 0, none⟩) 0 n) (w.alloc (.cells (madeCells #[.int .i64 0] n) 3)) := by
  obtain ⟨i, hi, hz, hs, hb⟩ := info_parts Try.info3
  have hr := run_make (P := Try.prog) w 36 3 i _ Try.underlying36 hi hz .i64 .i64 0 n (by omega) (by omega) (by rw [hb]; omega) (by omega)
  simp only [Int.toNat_natCast, hs, Int.toNat_zero, Nat.mul_one] at hr
  exact hr
theorem own_cap (w : World) (n : Nat) (hn : n ≤ 1048576) : Own w.heap.size (w.alloc (.cells (madeCells #[.int .i64 0] n) 3)) (.slice (some ⟨w.heap.size, 0, none⟩) 0 n) [] :=
  ⟨by simp, .inr ⟨w.heap.size, n, _, rfl, Nat.le_refl _, World.alloc_heap_new w _, Nat.zero_le _, by unfold maxLen; omega, by simp [size_madeCells], by simp⟩⟩

set_option maxHeartbeats 3200000 in
theorem trMarks_any (b : Nat) (s : Sl) (n : Nat) (R : List Pl) (w : World) (h : Tr w b s n R) :
    Calls Try.prog 15 #[.pointer (some ⟨b, 0, none⟩)] w fun e w' => ∃ u, e = .returned u ∧ Own w.heap.size w' u (mks R) ∧ Below w.heap.size w w' := by
  have HT : Hid (Tr w b s n R) := h
  have hlen := h.ok.len
  have hN := h.n
  have hnow := now_le R
  obtain ⟨g3, c3, el, hc5, hc6, hg3⟩ := row_some h.q.l (by rw [lvs_len]; omega)
  rw [lvs_len] at el hc5
  have HEL : Hid (s.L = .slice (some ⟨g3, 0, none⟩) (now R + 1) c3) := el
  have hmk := made_cap (now R) (by omega)
  have HLv : Hid (Calls Try.prog 17 #[.pointer (some ⟨b, 0, none⟩)] w fun e w' => e = .returned (.int .i64 (now R : Int)) ∧ w' = w) := by
    have h1 := trLevel_any b s n _ _ _ _ w h.q (by rw [lvs_len]; omega) (by rw [lvs_len]; omega)
    rw [lvs_len] at h1
    have e1 : ((now R + 1 : Nat) : Int) - 1 = (now R : Int) := by omega
    rw [e1] at h1
    exact h1
  have HO : Hid (Own w.heap.size (w.alloc (.cells (madeCells #[.int .i64 0] (now R)) 3)) (.slice (some ⟨w.heap.size, 0, none⟩) 0 (now R)) []) := own_cap w _ (by omega)
  have HB0 : Hid (Below w.heap.size w (w.alloc (.cells (madeCells #[.int .i64 0] (now R)) 3))) := below_box _ _
  have HMK : Hid ((mks R).length = now R) := mks_len R
  -- a level's cells
  have HC : Hid (∀ (W : World) (i : Nat), Below w.heap.size w W → i < now R → ∃ d : Int, W.cell? ⟨g3, 2 + i * 2, none⟩ = some (.int .i64 ((mks R).getD i 0)) ∧ W.cell? ⟨g3, 2 + i * 2 + 1, none⟩ = some (.int .i64 d)) := by
    intro W i hW hi
    have hq := (h.q.below hW).l
    rw [el, lvs_len] at hq
    have hl : i < (decs 0 R).length := by rw [decs_len]; exact hi
    have hat : (lvs R)[i + 1]? = some ((decs 0 R)[i].1, (decs 0 R)[i].2) := by
      show ((0, 0) :: decs 0 R)[i + 1]? = _
      rw [List.getElem?_cons_succ, List.getElem?_eq_getElem hl]
    have e1 : (i + 1) * 2 = 2 + i * 2 := by omega
    have r0 := row_cell hq (two_at0 hat)
    have r1 := row_cell hq (two_at1 hat)
    rw [e1] at r0 r1
    refine ⟨_, ?_, r1⟩
    rw [r0]
    simp [mks, List.getD_eq_getElem?_getD, hl]
  have k3 := (h.q.below HB0.out).box.c3
  rw [el] at k3
  clear h el
  generalize hNR : now R = N at *
  have HNR : Hid (now R = N) := hNR
  clear hNR
  generalize mks R = M at *
  rcases (show N = 0 ∧ c3 = 1 ∨ 1 < c3 by omega) with ⟨hN0, hc1⟩ | hc1
  · subst hc1
    have HN0 : Hid (N = 0) := hN0
    clear hN0 hc5
    go_enter Try.func15, Try.ntmps15
    go_wp2_with fail
    refine HLv.out.mono ?_
    rintro e w1 ⟨rfl, rfl⟩
    clear HLv
    go_wp2
    generalize w1.alloc (.cells (madeCells #[.int .i64 0] N) 3) = W0 at *
    go_loopg [3, 15] N (fun g v i wr => i = .int .i64 0 ∧ v = .slice (some ⟨w1.heap.size, 0, none⟩) 0 N ∧ wr = W0)
    case atStart => exact ⟨rfl, rfl, rfl⟩
    case round =>
      obtain ⟨rfl, rfl, rfl⟩ := hrel
      have HE : Hid (M = []) := List.eq_nil_of_length_eq_zero (by rw [HMK.out, HN0.out])
      have hN0 := HN0.out
      go_wp2
      go_ret
      exact ⟨_, rfl, by rw [HE.out]; exact HO.out, HB0.out⟩
  · go_enter Try.func15, Try.ntmps15
    go_wp2_with fail
    refine HLv.out.mono ?_
    rintro e w1 ⟨rfl, rfl⟩
    clear HLv
    go_wp2
    generalize w1.alloc (.cells (madeCells #[.int .i64 0] N) 3) = W0 at *
    go_loopg [3, 15] N (fun g v i wr => ∃ k : Nat, k + g = N ∧ i = .int .i64 k ∧ Own w1.heap.size wr v (M.take k) ∧ Below w1.heap.size w1 wr)
    case atStart => exact ⟨0, by omega, rfl, by simpa using HO.out, HB0.out⟩
    case round =>
      obtain ⟨k, hk, rfl, own, bel⟩ := hrel
      have HK : Hid (k + gk = N) := hk
      by_cases hlt : k < N
      · obtain ⟨d, d0, d1⟩ := HC.out wr k bel hlt
        clear hk
        have HZ : Hid (M.take (k + 1) = M.take k ++ [M.getD k 0]) := by
          have hl : k < M.length := by rw [HMK.out]; exact hlt
          show _ = _
          rw [List.take_succ_eq_append_getElem hl]
          simp [List.getD_eq_getElem?_getD, hl]
        have htl : (M.take k).length ≤ 1048576 := by rw [List.length_take]; omega
        generalize M.getD k 0 = z at *
        have hsz := bel.size
        have HB1 : Hid (Below wr.heap.size wr ((wr.alloc (.cells #[.int .i64 z, .int .i64 d] 74)).alloc (.cells #[.int .i64 z] 3))) := Below.step (below_box _ _) (below_box _ _)
        have HR1 : Hid (Rd ((wr.alloc (.cells #[.int .i64 z, .int .i64 d] 74)).alloc (.cells #[.int .i64 z] 3)) (.slice (some ⟨wr.heap.size + 1, 0, none⟩) 1 1) [z]) := by
          have := rd_one' (wr.alloc (.cells #[.int .i64 z, .int .i64 d] 74)) z
          rw [World.size_alloc] at this
          exact this
        have HOW := own
        go_wp2_with (at_builtin; refine wpList_app_rd rfl _ _ rfl w1.heap.size _ _ (M.take k) [z] rfl rfl (own.below HB1.out) HR1.out (by simp only [List.length_cons, List.length_nil]; omega) (by have := HB1.out.size; omega) ?_; intro v8 w8 own8 ap8; have F8 : Hid (Own w1.heap.size w8 v8 (M.take (k + 1)) ∧ Below w1.heap.size w1 w8) := ⟨by rw [HZ.out]; exact own8, (bel.trans (HB1.out.mono hsz)).grown ap8.grown (by have := HB1.out.size; omega) (fun j hj => (own.lt j hj).1)⟩; clear own8 ap8)
        go_roundg (gk - 1)
        case measure => have := HK.out; omega
        case rel => exact ⟨k + 1, by have := HK.out; omega, by go_num, F8.out.1, F8.out.2⟩
      · obtain rfl : k = N := by omega
        clear hk
        rw [List.take_of_length_le (by rw [HMK.out]; exact Nat.le_refl _)] at own
        go_wp2
        go_ret
        exact ⟨_, rfl, own, bel⟩
end Go.Proofs.Ytjcgfigbbbefcaa
