/-
  joined: PkE PkF
-/
import Derived.Test.YtilcokpaeapmeaaDoorKPkR
import Derived.Test.YtilcokpaeapmeaaDoorJText
import Derived.Test.YtilcokpaeapmeaaDoorJAppK
import Derived.Test.YtilcokpaeapmeaaDoorKCopy
import Derived.Deep.RegionWith
import Derived.Deep.CutRange
set_option linter.unusedSimpArgs false
set_option linter.unusedVariables false
namespace Go.Proofs.YtilcokpaeapmeaaDoor
open Go Go.RowKit

theorem litsB_le (zs : List Int) (h : zs.all fmd = true) : (litsB zs).length ≤ 10 * zs.length := by
  induction zs with
  | nil => simp [litsB]
  | cons z r ih =>
    simp only [List.all_cons, Bool.and_eq_true] at h
    have := ih h.2
    have h1 := litN_range h.1
    have h2 := numB_10 (n := litN z) (by omega)
    have e : litsB (z :: r) = numB (litN z) ++ litsB r := rfl
    rw [e, List.length_append, List.length_cons]; omega
theorem litsB_take_le (zs : List Int) (k : Nat) (h : zs.all fmd = true) : (litsB (zs.take k)).length ≤ 10 * zs.length := by
  have h1 := litsB_le (zs.take k) (List.all_eq_true.2 fun x hx => List.all_eq_true.1 h x (List.mem_of_mem_take hx))
  have h2 : (zs.take k).length ≤ zs.length := by simp; omega
  omega
theorem kndB_toNat (d : Bool) : ((kndB d).toNat : Int) = if d then 100 else 97 := by cases d <;> rfl

set_option maxHeartbeats 3200000 in
set_option maxRecDepth 100000 in
theorem appendStep_any (w0 : World) (v lv : Value) (T : List UInt8) (d : Bool) (zs : List Int) (w : World) (bel0 : Below w0.heap.size w0 w) (own : OwnT w0.heap.size w v T) (hr : Rd w0 lv zs) (hf : zs.all fmd = true) (hsz : T.length + 10 * zs.length + 20 ≤ 70368744177664) :
    Calls Tryd.prog 45 #[v, .agg #[.bool d, lv]] w fun e w' => ∃ v', e = .returned v' ∧ OwnT w0.heap.size w' v' (T ++ stpB (d, zs)) ∧ Below w0.heap.size w0 w' := by
  obtain ⟨i0, hi, hz0, hz1, hz2⟩ := info_parts infoY
  have hl := hr.len
  have HR : Hid (Rd w0 lv zs) := hr
  have HF : Hid (zs.all fmd = true) := hf
  obtain ⟨a, c, rfl, hc, hm, _⟩ := hr.form
  have hs0 := bel0.size
  have HO : Hid (OwnT w0.heap.size (w.alloc (.cells #[.bool d, .slice a zs.length c] 61)) v T) := World.ownsRow.alloc own _
  have HB : Hid (Below w0.heap.size w0 (w.alloc (.cells #[.bool d, .slice a zs.length c] 61))) := bel0.alloc hs0 _
  have HBx : Hid (Bx2 (w.alloc (.cells #[.bool d, .slice a zs.length c] 61)) w.heap.size 61 (.bool d) (.slice a zs.length c)) := Bx2.new _ _ _ _
  have HZ : Hid (∀ k, (litsB (zs.take k)).length ≤ 10 * zs.length) := fun k => litsB_take_le zs k hf
  clear hr hf own bel0
  cases d
  · go_enter Tryd.func45, Tryd.ntmps45
    have c0 : (w.alloc (.cells #[.bool false, .slice a zs.length c] 61)).cell? ⟨w.heap.size, 0, none⟩ = some (.bool false) := HBx.out.c0
    go_upto_region 4 with fail
    clear c0
    generalize w.alloc (.cells #[.bool false, .slice a zs.length c] 61) = w1 at *
    have hs1 := HB.out.size
    clear hs0
    generalize w.heap.size = D at *
    have HC1 : Hid (∀ (o : Obj) (w2 : World), (w1.alloc o).grownBy w2 v.ownBlock → w2.cell? ⟨D, 1, none⟩ = some (.slice a zs.length c)) := fun o w2 gr2 =>
      ((HBx.out.below (below_box _ o)).kept gr2 (Bx2.not_row (HBx.out.below (below_box _ o)) (by decide) (World.ownsRow.alloc HO.out o))).c1
    go_wp2_with (at_builtin; refine wpList_append_own _ rfl _ _ 44 rfl w0.heap.size 5 i0 (.int .u8 0) 1 1 Tryd.underlying44 hi hz0 hz1 hz2 rfl (by decide) _ T.length (Lib.byteCells T) rfl (World.ownsRow.alloc HO.out _) _ 1 1 [.int .u8 97] rfl rfl (cell_one_new _ _ _) (by simp [Value.oneCell']) (by unfold maxLen; omega) (by omega) (by simp; omega) ?_; intro v2 w2 own2 gr2 hn2; have c1 := HC1.out _ _ gr2)
    have OW2 : Hid (OwnT w0.heap.size w2 v2 (T ++ [kndB false])) := OwnT.one own2
    have HB2 : Hid (Below w0.heap.size w0 w2) := (HB.out.alloc hs1 _).grown gr2 (by simp; omega) (fun q hq => (HO.out.lt q hq).1)
    clear c1 own2 gr2 hn2 HBx HO HB HC1
    go_loopg [0, 19] zs.length (fun g u i wr => ∃ j : Nat, j + g = zs.length ∧ i = .int .i64 j ∧ OwnT w0.heap.size wr u ((T ++ [kndB false]) ++ litsB (zs.take j)) ∧ Below w0.heap.size w0 wr)
    case atStart => exact ⟨0, by omega, rfl, by simpa [litsB] using OW2.out, HB2.out⟩
    case round =>
      obtain ⟨j, hj, rfl, own, bel⟩ := hrel
      have HJ : Hid (j + gk = zs.length) := hj
      have hs := bel.size
      have hXl : ((T ++ [kndB false]) ++ litsB (zs.take j)).length + 15 ≤ 70368744177664 := by
        have := HZ.out j
        simp only [List.length_append, List.length_cons, List.length_nil]; omega
      have HOw : Hid (OwnT w0.heap.size wr _ ((T ++ [kndB false]) ++ litsB (zs.take j))) := own
      by_cases hjt : j < zs.length
      · obtain ⟨a', c', e', _, _, hcell⟩ := (HR.out.below bel).form
        have e3 : a' = a ∧ c' = c := by injection e' with q1 q2 q3; exact ⟨q1.symm, q3.symm⟩
        obtain ⟨rfl, rfl⟩ := e3
        obtain ⟨b2, off2, rfl, hcj⟩ := hcell j hjt
        have hfz : fmd (zs.getD j 0) = true := List.all_eq_true.1 HF.out _ (getD_mem' (d := 0) hjt)
        have HS : Hid ((T ++ [kndB false]) ++ litsB (zs.take (j + 1)) = ((T ++ [kndB false]) ++ litsB (zs.take j)) ++ numB (litN (zs.getD j 0))) := by show _ = _; rw [litsB_more zs j hjt]; simp
        have hN := litN_range hfz
        have h10 := numB_10 (n := litN (zs.getD j 0)) (by omega)
        have HNu : Hid (∀ W, Calls Tryd.prog 59 #[.int .i64 (zs.getD j 0)] W fun e w' => e = .returned (.int .u64 (litN (zs.getD j 0))) ∧ w' = W) := fun W => numberOf_any _ W hfz
        have HLa : Hid (∀ W, Calls Tryd.prog 47 #[.int .u64 (litN (zs.getD j 0))] W fun e w' => e = .returned (.tuple #[.agg (padA (numB (litN (zs.getD j 0)))), .int .i64 (numB (litN (zs.getD j 0))).length]) ∧ Below W.heap.size W w') := fun W => lay_any _ W (by omega)
        clear hj hcell e' own hfz
        generalize zs.getD j 0 = z at *
        generalize litN z = m at *
        generalize (T ++ [kndB false]) ++ litsB (zs.take j) = X2 at *
        have hst := store_a (numB m) h10
        have hps := padA_size h10
        have hsl := fun W g => slice_a W g (numB m) h10
        go_wp2_with (first
          | (go_at_call 59; refine (HNu.out _).mono ?_; rintro e w3 ⟨rfl, rfl⟩)
          | (go_at_call 47; refine (HLa.out _).mono ?_; rintro e w4 ⟨rfl, bel4⟩)
          | (at_builtin; refine wpList_append_y rfl _ _ rfl w0.heap.size _ X2 rfl (World.ownsRow.alloc (OwnT.below HOw.out bel4) _) _ (numB m) rfl (rdy_pad _ _ h10) (by omega) (by simp; have := bel4.size; omega) ?_; intro v5 w5 own5 gr5))
        go_roundg (gk - 1)
        case measure => have := HJ.out; omega
        case rel => exact ⟨j + 1, by have := HJ.out; omega, by go_num, by rw [HS.out]; exact own5, ((bel.trans (bel4.mono hs)).alloc (by have := bel4.size; omega) _).grown gr5 (by simp; have := bel4.size; omega) (fun q hq => (HOw.out.lt q hq).1)⟩
      · obtain rfl : j = zs.length := by omega
        rw [List.take_length] at own HOw hXl
        have HE : Hid (((T ++ [kndB false]) ++ litsB zs) ++ [0] = T ++ stpB (false, zs)) := by show _ = _; simp [stpB]
        clear hj own
        generalize (T ++ [kndB false]) ++ litsB zs = X2 at *
        have HO' : Hid (wr.ownsRow w0.heap.size 5 1 _ X2.length (Lib.byteCells X2)) := HOw.out
        go_wp2_with (at_builtin; refine wpList_append_own _ rfl _ _ 44 rfl w0.heap.size 5 i0 (.int .u8 0) 1 1 Tryd.underlying44 hi hz0 hz1 hz2 rfl (by decide) _ X2.length (Lib.byteCells X2) rfl (World.ownsRow.alloc HO'.out _) _ 1 1 [.int .u8 0] rfl rfl (cell_one_new _ _ _) (by simp [Value.oneCell']) (by unfold maxLen; omega) (by omega) (by simp; omega) ?_; intro v6 w6 own6 gr6 hn6)
        go_ret
        exact ⟨_, rfl, by rw [← HE.out]; exact OwnT.one (b := 0) own6, (bel.alloc hs _).grown gr6 (by simp; omega) (fun q hq => (HO'.out.lt q hq).1)⟩
  · go_enter Tryd.func45, Tryd.ntmps45
    have c0 : (w.alloc (.cells #[.bool true, .slice a zs.length c] 61)).cell? ⟨w.heap.size, 0, none⟩ = some (.bool true) := HBx.out.c0
    go_upto_region 4 with fail
    clear c0
    generalize w.alloc (.cells #[.bool true, .slice a zs.length c] 61) = w1 at *
    have hs1 := HB.out.size
    clear hs0
    generalize w.heap.size = D at *
    have HC1 : Hid (∀ (o : Obj) (w2 : World), (w1.alloc o).grownBy w2 v.ownBlock → w2.cell? ⟨D, 1, none⟩ = some (.slice a zs.length c)) := fun o w2 gr2 =>
      ((HBx.out.below (below_box _ o)).kept gr2 (Bx2.not_row (HBx.out.below (below_box _ o)) (by decide) (World.ownsRow.alloc HO.out o))).c1
    go_wp2_with (at_builtin; refine wpList_append_own _ rfl _ _ 44 rfl w0.heap.size 5 i0 (.int .u8 0) 1 1 Tryd.underlying44 hi hz0 hz1 hz2 rfl (by decide) _ T.length (Lib.byteCells T) rfl (World.ownsRow.alloc HO.out _) _ 1 1 [.int .u8 100] rfl rfl (cell_one_new _ _ _) (by simp [Value.oneCell']) (by unfold maxLen; omega) (by omega) (by simp; omega) ?_; intro v2 w2 own2 gr2 hn2; have c1 := HC1.out _ _ gr2)
    have OW2 : Hid (OwnT w0.heap.size w2 v2 (T ++ [kndB true])) := OwnT.one own2
    have HB2 : Hid (Below w0.heap.size w0 w2) := (HB.out.alloc hs1 _).grown gr2 (by simp; omega) (fun q hq => (HO.out.lt q hq).1)
    clear c1 own2 gr2 hn2 HBx HO HB HC1
    go_loopg [0, 19] zs.length (fun g u i wr => ∃ j : Nat, j + g = zs.length ∧ i = .int .i64 j ∧ OwnT w0.heap.size wr u ((T ++ [kndB true]) ++ litsB (zs.take j)) ∧ Below w0.heap.size w0 wr)
    case atStart => exact ⟨0, by omega, rfl, by simpa [litsB] using OW2.out, HB2.out⟩
    case round =>
      obtain ⟨j, hj, rfl, own, bel⟩ := hrel
      have HJ : Hid (j + gk = zs.length) := hj
      have hs := bel.size
      have hXl : ((T ++ [kndB true]) ++ litsB (zs.take j)).length + 15 ≤ 70368744177664 := by
        have := HZ.out j
        simp only [List.length_append, List.length_cons, List.length_nil]; omega
      have HOw : Hid (OwnT w0.heap.size wr _ ((T ++ [kndB true]) ++ litsB (zs.take j))) := own
      by_cases hjt : j < zs.length
      · obtain ⟨a', c', e', _, _, hcell⟩ := (HR.out.below bel).form
        have e3 : a' = a ∧ c' = c := by injection e' with q1 q2 q3; exact ⟨q1.symm, q3.symm⟩
        obtain ⟨rfl, rfl⟩ := e3
        obtain ⟨b2, off2, rfl, hcj⟩ := hcell j hjt
        have hfz : fmd (zs.getD j 0) = true := List.all_eq_true.1 HF.out _ (getD_mem' (d := 0) hjt)
        have HS : Hid ((T ++ [kndB true]) ++ litsB (zs.take (j + 1)) = ((T ++ [kndB true]) ++ litsB (zs.take j)) ++ numB (litN (zs.getD j 0))) := by show _ = _; rw [litsB_more zs j hjt]; simp
        have hN := litN_range hfz
        have h10 := numB_10 (n := litN (zs.getD j 0)) (by omega)
        have HNu : Hid (∀ W, Calls Tryd.prog 59 #[.int .i64 (zs.getD j 0)] W fun e w' => e = .returned (.int .u64 (litN (zs.getD j 0))) ∧ w' = W) := fun W => numberOf_any _ W hfz
        have HLa : Hid (∀ W, Calls Tryd.prog 47 #[.int .u64 (litN (zs.getD j 0))] W fun e w' => e = .returned (.tuple #[.agg (padA (numB (litN (zs.getD j 0)))), .int .i64 (numB (litN (zs.getD j 0))).length]) ∧ Below W.heap.size W w') := fun W => lay_any _ W (by omega)
        clear hj hcell e' own hfz
        generalize zs.getD j 0 = z at *
        generalize litN z = m at *
        generalize (T ++ [kndB true]) ++ litsB (zs.take j) = X2 at *
        have hst := store_a (numB m) h10
        have hps := padA_size h10
        have hsl := fun W g => slice_a W g (numB m) h10
        go_wp2_with (first
          | (go_at_call 59; refine (HNu.out _).mono ?_; rintro e w3 ⟨rfl, rfl⟩)
          | (go_at_call 47; refine (HLa.out _).mono ?_; rintro e w4 ⟨rfl, bel4⟩)
          | (at_builtin; refine wpList_append_y rfl _ _ rfl w0.heap.size _ X2 rfl (World.ownsRow.alloc (OwnT.below HOw.out bel4) _) _ (numB m) rfl (rdy_pad _ _ h10) (by omega) (by simp; have := bel4.size; omega) ?_; intro v5 w5 own5 gr5))
        go_roundg (gk - 1)
        case measure => have := HJ.out; omega
        case rel => exact ⟨j + 1, by have := HJ.out; omega, by go_num, by rw [HS.out]; exact own5, ((bel.trans (bel4.mono hs)).alloc (by have := bel4.size; omega) _).grown gr5 (by simp; have := bel4.size; omega) (fun q hq => (HOw.out.lt q hq).1)⟩
      · obtain rfl : j = zs.length := by omega
        rw [List.take_length] at own HOw hXl
        have HE : Hid (((T ++ [kndB true]) ++ litsB zs) ++ [0] = T ++ stpB (true, zs)) := by show _ = _; simp [stpB]
        clear hj own
        generalize (T ++ [kndB true]) ++ litsB zs = X2 at *
        have HO' : Hid (wr.ownsRow w0.heap.size 5 1 _ X2.length (Lib.byteCells X2)) := HOw.out
        go_wp2_with (at_builtin; refine wpList_append_own _ rfl _ _ 44 rfl w0.heap.size 5 i0 (.int .u8 0) 1 1 Tryd.underlying44 hi hz0 hz1 hz2 rfl (by decide) _ X2.length (Lib.byteCells X2) rfl (World.ownsRow.alloc HO'.out _) _ 1 1 [.int .u8 0] rfl rfl (cell_one_new _ _ _) (by simp [Value.oneCell']) (by unfold maxLen; omega) (by omega) (by simp; omega) ?_; intro v6 w6 own6 gr6 hn6)
        go_ret
        exact ⟨_, rfl, by rw [← HE.out]; exact OwnT.one (b := 0) own6, (bel.alloc hs _).grown gr6 (by simp; omega) (fun q hq => (HO'.out.lt q hq).1)⟩

end Go.Proofs.YtilcokpaeapmeaaDoor
set_option linter.unusedSimpArgs false
set_option linter.unusedVariables false
namespace Go.Proofs.YtilcokpaeapmeaaDoor
open Go Go.RowKit

/-- how long the bytes may be -/
def ez (l : List Stp) : Nat := 10 * (l.map (fun x => x.2.length)).sum + 2 * l.length
theorem encB_le : ∀ l : List Stp, sndS l = true → (encB l).length ≤ ez l
  | [], _ => by simp [encB]
  | x :: l, h => by
    simp only [sndS, List.all_cons, Bool.and_eq_true] at h
    have e : encB (x :: l) = stpB x ++ encB l := rfl
    have h1 := litsB_le x.2 h.1
    have h2 := encB_le l h.2
    have h3 : (stpB x).length = (litsB x.2).length + 2 := by simp [stpB]
    rw [e, List.length_append, h3]
    unfold ez at h2 ⊢
    simp only [List.map_cons, List.sum_cons, List.length_cons]
    omega
theorem ez_take (l : List Stp) (k : Nat) : ez (l.take k) ≤ ez l := by
  have e : l = l.take k ++ l.drop k := (List.take_append_drop k l).symm
  have e2 : ez l = ez (l.take k) + ez (l.drop k) := by
    conv => lhs; rw [e]
    simp only [ez, List.map_append, List.sum_append, List.length_append]; omega
  omega
theorem snd_take_more10 (l : List Stp) (k : Nat) (h : k < l.length) : sndS (l.take (k + 1)) = (sndS (l.take k) && (l.getD k (false, [])).2.all fmd) := by
  unfold sndS; rw [all_take_getD _ l (false, []) k h]
theorem ez_pre (l : List Stp) (k : Nat) (h : k < l.length) (hs : sndS (l.take k) = true) : (encB (l.take k)).length + 10 * (l.getD k (false, [])).2.length + 2 ≤ ez l := by
  have h1 := encB_le (l.take k) hs
  have h2 := ez_take l (k + 1)
  rw [take_succ_getD l (false, []) k h] at h2
  unfold ez at h1 h2 ⊢
  simp only [List.map_append, List.sum_append, List.length_append, List.map_cons, List.map_nil, List.sum_cons, List.sum_nil, List.length_cons, List.length_nil] at h2
  omega

set_option maxHeartbeats 3200000 in
set_option maxRecDepth 100000 in
theorem encode_any (s : Value) (l : List Stp) (w : World) (hr : RdZ w s l) (hbig : ez l ≤ 1099511627776) :
    Calls Tryd.prog 19 #[s] w fun e w' => ∃ v, e = .returned (.tuple #[v, .int .i64 (if sndS l then 0 else 1)]) ∧ OwnT w.heap.size w' v (if sndS l then encB l else []) ∧ Below w.heap.size w w' := by
  have hl := hr.len
  have HR : Hid (RdZ w s l) := hr
  obtain ⟨a, c, rfl, hc, hm, _⟩ := hr.form
  have HB : Hid (ez l ≤ 1099511627776) := hbig
  obtain ⟨X, hX⟩ : ∃ X, X = (if sndS l = true then encB l else []) := ⟨_, rfl⟩
  obtain ⟨E, hE⟩ : ∃ E : Int, E = (if sndS l = true then 0 else 1) := ⟨_, rfl⟩
  rw [← hX, ← hE]
  have HX0 : Hid (sndS l = false → X = [] ∧ E = 1) := fun h => by rw [hX, hE, h]; exact ⟨rfl, rfl⟩
  have HX1 : Hid (sndS l = true → X = encB l ∧ E = 0) := fun h => by rw [hX, hE, h]; exact ⟨rfl, rfl⟩
  clear hr hbig hX hE
  go_enter Tryd.func19, Tryd.ntmps19
  go_wp2
  go_loopg [4, 9] l.length (fun g u i wr => ∃ k : Nat, k + g = l.length ∧ i = .int .i64 k ∧ OwnT w.heap.size wr u (encB (l.take k)) ∧ sndS (l.take k) = true ∧ Below w.heap.size w wr)
  case atStart => exact ⟨0, by omega, rfl, OwnT.nil _ _, rfl, Below.refl _ _⟩
  case round =>
    obtain ⟨k, hk, rfl, own, hsn, bel⟩ := hrel
    have HK : Hid (k + gk = l.length) := hk
    have HSN : Hid (sndS (l.take k) = true) := hsn
    have hs := bel.size
    clear hsn
    by_cases hlt : k < l.length
    · obtain ⟨a', c', e', _, _, hcell⟩ := HR.out.form
      have e3 : a' = a ∧ c' = c := by injection e' with q1 q2 q3; exact ⟨q1.symm, q3.symm⟩
      obtain ⟨rfl, rfl⟩ := e3
      obtain ⟨b, off, uc, rfl, hbl, hd0, hu0, hrd⟩ := hcell k hlt
      have hd := (bel.cell (p := ⟨b, off + k * 2, none⟩) hbl).trans hd0
      have hu := (bel.cell (p := ⟨b, off + k * 2 + 1, none⟩) hbl).trans hu0
      clear hd0 hu0
      have HS : Hid (sndS (l.take (k + 1)) = (sndS (l.take k) && (l.getD k (false, [])).2.all fmd)) := snd_take_more10 l k hlt
      have HP0 : Hid ((encB (l.take k)).length + 10 * (l.getD k (false, [])).2.length + 2 ≤ 1099511627776) := Nat.le_trans (ez_pre l k hlt HSN.out) HB.out
      have HM0 : Hid (encB (l.take (k + 1)) = encB (l.take k) ++ stpB (l.getD k (false, []))) := encB_more l k hlt
      obtain ⟨ac, cc, rfl, hcc, hcm, _⟩ := hrd.form
      have HRd : Hid (Rd w (.slice ac (l.getD k (false, [])).2.length cc) (l.getD k (false, [])).2) := hrd
      have HNo : Hid ((l.getD k (false, [])).2.all fmd = false → sndS l = false) := fun h => by unfold sndS; exact all_false_getD (d := (false, [])) hlt h
      clear hk hcell e' hrd
      generalize l.getD k (false, []) = xk at *
      obtain ⟨dd, zs⟩ := xk
      dsimp only at *
      generalize encB (l.take k) = T at *
      have hzl := HRd.out.len
      have HX : Hid (Rd (wr.alloc (.cells #[.bool dd, .slice ac zs.length cc] 61)) (.slice ac zs.length cc) zs) := (HRd.out.below bel).below (below_box _ _)
      have HOA : Hid (OwnT w.heap.size (wr.alloc (.cells #[.bool dd, .slice ac zs.length cc] 61)) _ T) := World.ownsRow.alloc own _
      have HBA : Hid (Below w.heap.size w (wr.alloc (.cells #[.bool dd, .slice ac zs.length cc] 61))) := bel.alloc hs _
      have HBx0 : Hid (Bx2 (wr.alloc (.cells #[.bool dd, .slice ac zs.length cc] 61)) wr.heap.size 61 (.bool dd) (.slice ac zs.length cc)) := Bx2.new _ _ _ _
      cases hf : zs.all fmd
      · go_wp2_with fail
        refine (sound_any _ zs _ HX.out).mono ?_
        rw [hf]
        rintro e w1 ⟨rfl, rfl⟩
        obtain ⟨h1, h2⟩ := HX0.out (HNo.out hf)
        clear hf
        go_wp2
        go_returns
        rw [h1, h2]
        exact ⟨_, rfl, OwnT.nil _ _, HBA.out⟩
      have HSt : Hid (sndS (l.take (k + 1)) = true) := by show _ = _; rw [HS.out, HSN.out, hf]; rfl
      have HFm : Hid (zs.all fmd = true) := hf
      clear HNo own bel hs
      go_wp2_with fail
      refine (sound_any _ zs _ HX.out).mono ?_
      rw [hf]
      rintro e w1 ⟨rfl, rfl⟩
      clear hf hd hu
      generalize wr.alloc (.cells #[.bool dd, .slice ac zs.length cc] 61) = w1 at *
      generalize wr.heap.size = D at *
      have c0 := HBx0.out.c0
      have c1 := HBx0.out.c1
      have HAp : Hid (∀ u, OwnT w.heap.size w1 u T → Calls Tryd.prog 45 #[u, .agg #[.bool dd, .slice ac zs.length cc]] w1 fun e w' => ∃ v', e = .returned v' ∧ OwnT w.heap.size w' v' (T ++ stpB (dd, zs)) ∧ Below w.heap.size w w') := fun u hu => appendStep_any w u _ T dd zs w1 HBA.out hu HRd.out HFm.out (by have := HP0.out; omega)
      go_wp2_with (go_at_call 45; refine (HAp.out _ HOA.out).mono ?_; rintro e w2 ⟨v2, rfl, own2, bel2⟩)
      go_roundg (gk - 1)
      case measure => have := HK.out; omega
      case rel => exact ⟨k + 1, by have := HK.out; omega, by go_num, by rw [HM0.out]; exact own2, HSt.out, bel2⟩
    · obtain rfl : k = l.length := by omega
      have HSN2 := HSN.out
      rw [List.take_length] at own HSN2
      obtain ⟨h1, h2⟩ := HX1.out HSN2
      clear hk
      have own' := own
      clear own
      rw [← h1] at own'
      have HE : Hid (E = 0) := h2
      clear h1 h2
      go_wp2
      go_returns
      rw [HE.out]
      exact ⟨_, rfl, own', bel⟩

end Go.Proofs.YtilcokpaeapmeaaDoor
