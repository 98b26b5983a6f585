/-
  pack's appendStep and Encode, the document's Encode, walked.
  KEEP: len below nil form rd mono rdz on app start at new trans refl kept own row ap out
-/
import Derived.Test.YtaalgilickkggabDoorPkR
import Derived.Test.YtaalgilickkggabDoorDrM
import Derived.Test.YtaalgilickkggabDoorCopy
import Derived.Deep.RegionWith
import Derived.Deep.CutRange
set_option linter.unusedSimpArgs false
set_option linter.unusedVariables false
namespace Go.Proofs.YtaalgilickkggabDoor
open Go Go.RowKit

theorem litsB_le (zs : List Int) (h : zs.all fmd = true) : (litsB zs).length ≤ 10 * zs.length := by
  induction zs with
  | nil => simp [litsB]
  | cons z r ih =>
    simp only [List.all_cons, Bool.and_eq_true] at h
    have := ih h.2
    have h1 := litN_range h.1
    have h2 := numB_10 (n := litN z) (by omega)
    have e : litsB (z :: r) = numB (litN z) ++ litsB r := rfl
    rw [e, List.length_append, List.length_cons]; omega
theorem litsB_take_le (zs : List Int) (k : Nat) (h : zs.all fmd = true) : (litsB (zs.take k)).length ≤ 10 * zs.length := by
  have h1 := litsB_le (zs.take k) (List.all_eq_true.2 fun x hx => List.all_eq_true.1 h x (List.mem_of_mem_take hx))
  have h2 : (zs.take k).length ≤ zs.length := by simp; omega
  omega
theorem kndB_toNat (d : Bool) : ((kndB d).toNat : Int) = if d then 100 else 97 := by cases d <;> rfl

set_option maxHeartbeats 3200000 in
set_option maxRecDepth 100000 in
theorem appendStep_any (w0 : World) (v lv : Value) (T : List UInt8) (d : Bool) (zs : List Int) (w : World) (bel0 : Below w0.heap.size w0 w) (own : OwnT w0.heap.size w v T) (hr : Rd w0 lv zs) (hf : zs.all fmd = true) (hsz : T.length + 10 * zs.length + 20 ≤ 70368744177664) :
    Calls Tryd.prog 24 #[v, .agg #[.bool d, lv]] w fun e w' => ∃ v', e = .returned v' ∧ OwnT w0.heap.size w' v' (T ++ stpB (d, zs)) ∧ Below w0.heap.size w0 w' := by
  obtain ⟨i0, hi, hz0, hz1, hz2⟩ := info_parts infoY
  have hl := hr.len
  have HR : Hid (Rd w0 lv zs) := hr
  have HF : Hid (zs.all fmd = true) := hf
  obtain ⟨a, c, rfl, hc, hm, _⟩ := hr.form
  have hs0 := bel0.size
  have HO : Hid (OwnT w0.heap.size (w.alloc (.cells #[.bool d, .slice a zs.length c] 32)) v T) := World.ownsRow.alloc own _
  have HB : Hid (Below w0.heap.size w0 (w.alloc (.cells #[.bool d, .slice a zs.length c] 32))) := bel0.alloc hs0 _
  have HBx : Hid (Bx2 (w.alloc (.cells #[.bool d, .slice a zs.length c] 32)) w.heap.size 32 (.bool d) (.slice a zs.length c)) := Bx2.new _ _ _ _
  have HZ : Hid (∀ k, (litsB (zs.take k)).length ≤ 10 * zs.length) := fun k => litsB_take_le zs k hf
  clear hr hf own bel0
  cases d
  · go_enter Tryd.func24, Tryd.ntmps24
    have c0 : (w.alloc (.cells #[.bool false, .slice a zs.length c] 32)).cell? ⟨w.heap.size, 0, none⟩ = some (.bool false) := HBx.out.c0
    go_upto_region 4 with fail
    clear c0
    generalize w.alloc (.cells #[.bool false, .slice a zs.length c] 32) = w1 at *
    have hs1 := HB.out.size
    clear hs0
    generalize w.heap.size = D at *
    have HC1 : Hid (∀ (o : Obj) (w2 : World), (w1.alloc o).grownBy w2 v.ownBlock → w2.cell? ⟨D, 1, none⟩ = some (.slice a zs.length c)) := fun o w2 gr2 =>
      ((HBx.out.below (below_box _ o)).kept gr2 (Bx2.not_row (HBx.out.below (below_box _ o)) (by decide) (World.ownsRow.alloc HO.out o))).c1
    go_wp2_with (at_builtin; refine wpList_append_own _ rfl _ _ 23 rfl w0.heap.size 5 i0 (.int .u8 0) 1 1 Tryd.underlying23 hi hz0 hz1 hz2 rfl (by decide) _ T.length (Lib.byteCells T) rfl (World.ownsRow.alloc HO.out _) _ 1 1 [.int .u8 97] rfl rfl (cell_one_new _ _ _) (by simp [Value.oneCell']) (by unfold maxLen; omega) (by omega) (by simp; omega) ?_; intro v2 w2 own2 gr2 hn2; have c1 := HC1.out _ _ gr2)
    have OW2 : Hid (OwnT w0.heap.size w2 v2 (T ++ [kndB false])) := OwnT.one own2
    have HB2 : Hid (Below w0.heap.size w0 w2) := (HB.out.alloc hs1 _).grown gr2 (by simp; omega) (fun q hq => (HO.out.lt q hq).1)
    clear c1 own2 gr2 hn2 HBx HO HB HC1
    go_loopg [0, 19] zs.length (fun g u i wr => ∃ j : Nat, j + g = zs.length ∧ i = .int .i64 j ∧ OwnT w0.heap.size wr u ((T ++ [kndB false]) ++ litsB (zs.take j)) ∧ Below w0.heap.size w0 wr)
    case atStart => exact ⟨0, by omega, rfl, by simpa [litsB] using OW2.out, HB2.out⟩
    case round =>
      obtain ⟨j, hj, rfl, own, bel⟩ := hrel
      have HJ : Hid (j + gk = zs.length) := hj
      have hs := bel.size
      have hXl : ((T ++ [kndB false]) ++ litsB (zs.take j)).length + 15 ≤ 70368744177664 := by
        have := HZ.out j
        simp only [List.length_append, List.length_cons, List.length_nil]; omega
      have HOw : Hid (OwnT w0.heap.size wr _ ((T ++ [kndB false]) ++ litsB (zs.take j))) := own
      by_cases hjt : j < zs.length
      · obtain ⟨a', c', e', _, _, hcell⟩ := (HR.out.below bel).form
        have e3 : a' = a ∧ c' = c := by injection e' with q1 q2 q3; exact ⟨q1.symm, q3.symm⟩
        obtain ⟨rfl, rfl⟩ := e3
        obtain ⟨b2, off2, rfl, hcj⟩ := hcell j hjt
        have hfz : fmd (zs.getD j 0) = true := List.all_eq_true.1 HF.out _ (getD_mem' (d := 0) hjt)
        have HS : Hid ((T ++ [kndB false]) ++ litsB (zs.take (j + 1)) = ((T ++ [kndB false]) ++ litsB (zs.take j)) ++ numB (litN (zs.getD j 0))) := by show _ = _; rw [litsB_more zs j hjt]; simp
        have hN := litN_range hfz
        have h10 := numB_10 (n := litN (zs.getD j 0)) (by omega)
        have HNu : Hid (∀ W, Calls Tryd.prog 38 #[.int .i64 (zs.getD j 0)] W fun e w' => e = .returned (.int .u64 (litN (zs.getD j 0))) ∧ w' = W) := fun W => numberOf_any _ W hfz
        have HLa : Hid (∀ W, Calls Tryd.prog 32 #[.int .u64 (litN (zs.getD j 0))] W fun e w' => e = .returned (.tuple #[.agg (padA (numB (litN (zs.getD j 0)))), .int .i64 (numB (litN (zs.getD j 0))).length]) ∧ Below W.heap.size W w') := fun W => lay_any _ W (by omega)
        clear hj hcell e' own hfz
        generalize zs.getD j 0 = z at *
        generalize litN z = m at *
        generalize (T ++ [kndB false]) ++ litsB (zs.take j) = X2 at *
        have hst := store_a (numB m) h10
        have hps := padA_size h10
        have hsl := fun W g => slice_a W g (numB m) h10
        go_wp2_with (first
          | (go_at_call 38; refine (HNu.out _).mono ?_; rintro e w3 ⟨rfl, rfl⟩)
          | (go_at_call 32; refine (HLa.out _).mono ?_; rintro e w4 ⟨rfl, bel4⟩)
          | (at_builtin; refine wpList_append_y rfl _ _ rfl w0.heap.size _ X2 rfl (World.ownsRow.alloc (OwnT.below HOw.out bel4) _) _ (numB m) rfl (rdy_pad _ _ h10) (by omega) (by simp; have := bel4.size; omega) ?_; intro v5 w5 own5 gr5))
        go_roundg (gk - 1)
        case measure => have := HJ.out; omega
        case rel => exact ⟨j + 1, by have := HJ.out; omega, by go_num, by rw [HS.out]; exact own5, ((bel.trans (bel4.mono hs)).alloc (by have := bel4.size; omega) _).grown gr5 (by simp; have := bel4.size; omega) (fun q hq => (HOw.out.lt q hq).1)⟩
      · obtain rfl : j = zs.length := by omega
        rw [List.take_length] at own HOw hXl
        have HE : Hid (((T ++ [kndB false]) ++ litsB zs) ++ [0] = T ++ stpB (false, zs)) := by show _ = _; simp [stpB]
        clear hj own
        generalize (T ++ [kndB false]) ++ litsB zs = X2 at *
        have HO' : Hid (wr.ownsRow w0.heap.size 5 1 _ X2.length (Lib.byteCells X2)) := HOw.out
        go_wp2_with (at_builtin; refine wpList_append_own _ rfl _ _ 23 rfl w0.heap.size 5 i0 (.int .u8 0) 1 1 Tryd.underlying23 hi hz0 hz1 hz2 rfl (by decide) _ X2.length (Lib.byteCells X2) rfl (World.ownsRow.alloc HO'.out _) _ 1 1 [.int .u8 0] rfl rfl (cell_one_new _ _ _) (by simp [Value.oneCell']) (by unfold maxLen; omega) (by omega) (by simp; omega) ?_; intro v6 w6 own6 gr6 hn6)
        go_ret
        exact ⟨_, rfl, by rw [← HE.out]; exact OwnT.one (b := 0) own6, (bel.alloc hs _).grown gr6 (by simp; omega) (fun q hq => (HO'.out.lt q hq).1)⟩
  · go_enter Tryd.func24, Tryd.ntmps24
    have c0 : (w.alloc (.cells #[.bool true, .slice a zs.length c] 32)).cell? ⟨w.heap.size, 0, none⟩ = some (.bool true) := HBx.out.c0
    go_upto_region 4 with fail
    clear c0
    generalize w.alloc (.cells #[.bool true, .slice a zs.length c] 32) = w1 at *
    have hs1 := HB.out.size
    clear hs0
    generalize w.heap.size = D at *
    have HC1 : Hid (∀ (o : Obj) (w2 : World), (w1.alloc o).grownBy w2 v.ownBlock → w2.cell? ⟨D, 1, none⟩ = some (.slice a zs.length c)) := fun o w2 gr2 =>
      ((HBx.out.below (below_box _ o)).kept gr2 (Bx2.not_row (HBx.out.below (below_box _ o)) (by decide) (World.ownsRow.alloc HO.out o))).c1
    go_wp2_with (at_builtin; refine wpList_append_own _ rfl _ _ 23 rfl w0.heap.size 5 i0 (.int .u8 0) 1 1 Tryd.underlying23 hi hz0 hz1 hz2 rfl (by decide) _ T.length (Lib.byteCells T) rfl (World.ownsRow.alloc HO.out _) _ 1 1 [.int .u8 100] rfl rfl (cell_one_new _ _ _) (by simp [Value.oneCell']) (by unfold maxLen; omega) (by omega) (by simp; omega) ?_; intro v2 w2 own2 gr2 hn2; have c1 := HC1.out _ _ gr2)
    have OW2 : Hid (OwnT w0.heap.size w2 v2 (T ++ [kndB true])) := OwnT.one own2
    have HB2 : Hid (Below w0.heap.size w0 w2) := (HB.out.alloc hs1 _).grown gr2 (by simp; omega) (fun q hq => (HO.out.lt q hq).1)
    clear c1 own2 gr2 hn2 HBx HO HB HC1
    go_loopg [0, 19] zs.length (fun g u i wr => ∃ j : Nat, j + g = zs.length ∧ i = .int .i64 j ∧ OwnT w0.heap.size wr u ((T ++ [kndB true]) ++ litsB (zs.take j)) ∧ Below w0.heap.size w0 wr)
    case atStart => exact ⟨0, by omega, rfl, by simpa [litsB] using OW2.out, HB2.out⟩
    case round =>
      obtain ⟨j, hj, rfl, own, bel⟩ := hrel
      have HJ : Hid (j + gk = zs.length) := hj
      have hs := bel.size
      have hXl : ((T ++ [kndB true]) ++ litsB (zs.take j)).length + 15 ≤ 70368744177664 := by
        have := HZ.out j
        simp only [List.length_append, List.length_cons, List.length_nil]; omega
      have HOw : Hid (OwnT w0.heap.size wr _ ((T ++ [kndB true]) ++ litsB (zs.take j))) := own
      by_cases hjt : j < zs.length
      · obtain ⟨a', c', e', _, _, hcell⟩ := (HR.out.below bel).form
        have e3 : a' = a ∧ c' = c := by injection e' with q1 q2 q3; exact ⟨q1.symm, q3.symm⟩
        obtain ⟨rfl, rfl⟩ := e3
        obtain ⟨b2, off2, rfl, hcj⟩ := hcell j hjt
        have hfz : fmd (zs.getD j 0) = true := List.all_eq_true.1 HF.out _ (getD_mem' (d := 0) hjt)
        have HS : Hid ((T ++ [kndB true]) ++ litsB (zs.take (j + 1)) = ((T ++ [kndB true]) ++ litsB (zs.take j)) ++ numB (litN (zs.getD j 0))) := by show _ = _; rw [litsB_more zs j hjt]; simp
        have hN := litN_range hfz
        have h10 := numB_10 (n := litN (zs.getD j 0)) (by omega)
        have HNu : Hid (∀ W, Calls Tryd.prog 38 #[.int .i64 (zs.getD j 0)] W fun e w' => e = .returned (.int .u64 (litN (zs.getD j 0))) ∧ w' = W) := fun W => numberOf_any _ W hfz
        have HLa : Hid (∀ W, Calls Tryd.prog 32 #[.int .u64 (litN (zs.getD j 0))] W fun e w' => e = .returned (.tuple #[.agg (padA (numB (litN (zs.getD j 0)))), .int .i64 (numB (litN (zs.getD j 0))).length]) ∧ Below W.heap.size W w') := fun W => lay_any _ W (by omega)
        clear hj hcell e' own hfz
        generalize zs.getD j 0 = z at *
        generalize litN z = m at *
        generalize (T ++ [kndB true]) ++ litsB (zs.take j) = X2 at *
        have hst := store_a (numB m) h10
        have hps := padA_size h10
        have hsl := fun W g => slice_a W g (numB m) h10
        go_wp2_with (first
          | (go_at_call 38; refine (HNu.out _).mono ?_; rintro e w3 ⟨rfl, rfl⟩)
          | (go_at_call 32; refine (HLa.out _).mono ?_; rintro e w4 ⟨rfl, bel4⟩)
          | (at_builtin; refine wpList_append_y rfl _ _ rfl w0.heap.size _ X2 rfl (World.ownsRow.alloc (OwnT.below HOw.out bel4) _) _ (numB m) rfl (rdy_pad _ _ h10) (by omega) (by simp; have := bel4.size; omega) ?_; intro v5 w5 own5 gr5))
        go_roundg (gk - 1)
        case measure => have := HJ.out; omega
        case rel => exact ⟨j + 1, by have := HJ.out; omega, by go_num, by rw [HS.out]; exact own5, ((bel.trans (bel4.mono hs)).alloc (by have := bel4.size; omega) _).grown gr5 (by simp; have := bel4.size; omega) (fun q hq => (HOw.out.lt q hq).1)⟩
      · obtain rfl : j = zs.length := by omega
        rw [List.take_length] at own HOw hXl
        have HE : Hid (((T ++ [kndB true]) ++ litsB zs) ++ [0] = T ++ stpB (true, zs)) := by show _ = _; simp [stpB]
        clear hj own
        generalize (T ++ [kndB true]) ++ litsB zs = X2 at *
        have HO' : Hid (wr.ownsRow w0.heap.size 5 1 _ X2.length (Lib.byteCells X2)) := HOw.out
        go_wp2_with (at_builtin; refine wpList_append_own _ rfl _ _ 23 rfl w0.heap.size 5 i0 (.int .u8 0) 1 1 Tryd.underlying23 hi hz0 hz1 hz2 rfl (by decide) _ X2.length (Lib.byteCells X2) rfl (World.ownsRow.alloc HO'.out _) _ 1 1 [.int .u8 0] rfl rfl (cell_one_new _ _ _) (by simp [Value.oneCell']) (by unfold maxLen; omega) (by omega) (by simp; omega) ?_; intro v6 w6 own6 gr6 hn6)
        go_ret
        exact ⟨_, rfl, by rw [← HE.out]; exact OwnT.one (b := 0) own6, (bel.alloc hs _).grown gr6 (by simp; omega) (fun q hq => (HO'.out.lt q hq).1)⟩

end Go.Proofs.YtaalgilickkggabDoor
