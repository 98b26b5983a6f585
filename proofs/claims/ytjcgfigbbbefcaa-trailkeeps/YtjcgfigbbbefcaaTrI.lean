/-
  trail: the document's lists, walked.
  KEEP: set on app at below new trans refl start ap kept rd rds mono
-/
import Derived.Test.YtjcgfigbbbefcaaTrH
set_option linter.unusedSimpArgs false
set_option linter.unusedVariables false
namespace Go.Proofs.Ytjcgfigbbbefcaa
open Go Go.RowKit

theorem mks_more {R : List Pl} {k : Nat} (h : k < R.length) : mks (R.take (k + 1)) = mks (R.take k) ++ (if dcs R[k] then [(k : Int)] else []) := by
  unfold mks
  rw [List.take_succ_eq_append_getElem h, decs_append]
  simp only [decs, List.map_append]
  have : (R.take k).length = k := by rw [List.length_take]; omega
  rw [this]
  split <;> simp
theorem lits_more {R : List Pl} {k : Nat} (h : k < R.length) : (R.take (k + 1)).map Pl.lit = (R.take k).map Pl.lit ++ [R[k].lit] := by
  rw [List.take_succ_eq_append_getElem h, List.map_append]; rfl

set_option maxHeartbeats 3200000 in
theorem rLits_any (b : Nat) (u : Value) (n : Nat) (R : List Pl) (w : World) (h : Rf w b u n R) :
    Calls Try.prog 33 #[.pointer (some ⟨b, 0, none⟩)] w fun e w' => ∃ v, e = .returned v ∧ Own w.heap.size w' v (R.map Pl.lit) ∧ Below w.heap.size w w' := by
  have HR : Hid (Rf w b u n R) := h
  have hlen := h.ok.len
  have hN := h.n
  obtain ⟨a, c, rfl⟩ := row_form' h.row
  clear h
  go_enter Try.func33, Try.ntmps33
  go_wp2
  go_loopg [3, 4] R.length (fun g v i' wr => ∃ k : Nat, k + g = R.length ∧ i' = .int .i64 k ∧ Own w.heap.size wr v ((R.take k).map Pl.lit) ∧ Below w.heap.size w wr)
  case atStart => exact ⟨0, by omega, rfl, World.ownsRow_nil _ _ _ _, Below.refl _ _⟩
  case round =>
    obtain ⟨k, hk, rfl, own, bel⟩ := hrel
    have HK : Hid (k + gk = R.length) := hk
    have HRr : Hid (Rf wr b (.slice a R.length c) n R) := HR.out.below bel
    have c1 := HRr.out.box.c.2.1
    by_cases hlt : k < R.length
    · obtain ⟨g, rfl, d0, -⟩ := rf_cell (b := b) (n := n) HRr.out.row hlt
      have HZ : Hid ((R.take (k + 1)).map Pl.lit = (R.take k).map Pl.lit ++ [R[k].lit]) := lits_more hlt
      have htl : ((R.take k).map Pl.lit).length ≤ 1048576 := by rw [List.length_map, List.length_take]; omega
      generalize R[k].lit = z at *
      clear hk
      have hsz := bel.size
      have HR1 : Hid (Rd (wr.alloc (.cells #[.int .i64 z] 3)) (.slice (some ⟨wr.heap.size, 0, none⟩) 1 1) [z]) := rd_one' wr z
      have HB1 : Hid (Below wr.heap.size wr (wr.alloc (.cells #[.int .i64 z] 3))) := below_box _ _
      go_wp2_with (at_builtin; refine wpList_app_rd rfl _ _ rfl w.heap.size _ _ ((R.take k).map Pl.lit) [z] rfl rfl (own.below HB1.out) HR1.out (by simp only [List.length_cons, List.length_nil]; omega) (by have := HB1.out.size; omega) ?_; intro v8 w8 own8 ap8; have F8 : Hid (Own w.heap.size w8 v8 ((R.take (k + 1)).map Pl.lit) ∧ Below w.heap.size w w8) := ⟨by rw [HZ.out]; exact own8, (bel.trans (HB1.out.mono hsz)).grown ap8.grown (by have := HB1.out.size; omega) (fun j hj => (own.lt j hj).1)⟩; clear own8 ap8)
      go_roundg (gk - 1)
      case measure => have := HK.out; omega
      case rel => exact ⟨k + 1, by have := HK.out; omega, by go_num, F8.out.1, F8.out.2⟩
    · obtain rfl : k = R.length := by omega
      rw [List.take_length] at own
      clear hk HK
      go_wp2
      go_ret
      exact ⟨_, rfl, own, bel⟩

set_option maxHeartbeats 3200000 in
theorem rMarks_any (b : Nat) (u : Value) (n : Nat) (R : List Pl) (w : World) (h : Rf w b u n R) :
    Calls Try.prog 34 #[.pointer (some ⟨b, 0, none⟩)] w fun e w' => ∃ v, e = .returned v ∧ Own w.heap.size w' v (mks R) ∧ Below w.heap.size w w' := by
  have HR : Hid (Rf w b u n R) := h
  have hlen := h.ok.len
  have hN := h.n
  obtain ⟨a, c, rfl⟩ := row_form' h.row
  clear h
  go_enter Try.func34, Try.ntmps34
  go_wp2
  go_loopg [3, 4] R.length (fun g v i' wr => ∃ k : Nat, k + g = R.length ∧ i' = .int .i64 k ∧ Own w.heap.size wr v (mks (R.take k)) ∧ Below w.heap.size w wr)
  case atStart => exact ⟨0, by omega, rfl, World.ownsRow_nil _ _ _ _, Below.refl _ _⟩
  case round =>
    obtain ⟨k, hk, rfl, own, bel⟩ := hrel
    have HK : Hid (k + gk = R.length) := hk
    have HRr : Hid (Rf wr b (.slice a R.length c) n R) := HR.out.below bel
    have c1 := HRr.out.box.c.2.1
    by_cases hlt : k < R.length
    · obtain ⟨g, rfl, -, -, d2⟩ := rf_cell (b := b) (n := n) HRr.out.row hlt
      have hz := mks_more hlt
      have hre := HR.out.ok.rea R[k] (List.getElem_mem hlt)
      have HD : Hid (dcs R[k] = decide (R[k].rea = -1)) := rfl
      rw [HD.out] at hz
      have HZ : Hid (mks (R.take (k + 1)) = mks (R.take k) ++ if decide (R[k].rea = -1) = true then [(k : Int)] else []) := hz
      have htl : (mks (R.take k)).length ≤ 1048576 := by
        rw [mks_len]
        have h1 := now_le (R.take k)
        have h2 : (R.take k).length ≤ k := List.length_take_le k R
        omega
      clear hz HD hk
      generalize R[k].rea = z at *
      by_cases hneg : z < 0
      · have hz1 : z = -1 := by omega
        rw [if_pos (by simpa using hz1)] at HZ
        have hsz := bel.size
        have HR1 : Hid (Rd (wr.alloc (.cells #[.int .i64 (k : Int)] 3)) (.slice (some ⟨wr.heap.size, 0, none⟩) 1 1) [(k : Int)]) := rd_one' wr _
        have HB1 : Hid (Below wr.heap.size wr (wr.alloc (.cells #[.int .i64 (k : Int)] 3))) := below_box _ _
        clear hz1
        go_wp2_with (at_builtin; refine wpList_app_rd rfl _ _ rfl w.heap.size _ _ (mks (R.take k)) [(k : Int)] rfl rfl (own.below HB1.out) HR1.out (by simp only [List.length_cons, List.length_nil]; omega) (by have := HB1.out.size; omega) ?_; intro v8 w8 own8 ap8; have F8 : Hid (Own w.heap.size w8 v8 (mks (R.take (k + 1))) ∧ Below w.heap.size w w8) := ⟨by rw [HZ.out]; exact own8, (bel.trans (HB1.out.mono hsz)).grown ap8.grown (by have := HB1.out.size; omega) (fun j hj => (own.lt j hj).1)⟩; clear own8 ap8)
        go_roundg (gk - 1)
        case measure => have := HK.out; omega
        case rel => exact ⟨k + 1, by have := HK.out; omega, by go_num, F8.out.1, F8.out.2⟩
      · rw [if_neg (by simp; omega), List.append_nil] at HZ
        go_wp2
        go_roundg (gk - 1)
        case measure => have := HK.out; omega
        case rel => exact ⟨k + 1, by have := HK.out; omega, by go_num, by rw [HZ.out]; exact own, bel⟩
    · obtain rfl : k = R.length := by omega
      rw [List.take_length] at own
      clear hk HK
      go_wp2
      go_ret
      exact ⟨_, rfl, own, bel⟩

/-- what is taken away -/
def hiR (R : List Pl) (k : Nat) : List Pl := R.filter (fun p => decide (k < p.lev))
theorem cut_rest {n : Nat} {R : List Pl} {k : Nat} (h : okT n R) : hiR R k = R.drop (cutR R k).length := by
  obtain ⟨_, i, hi⟩ := cutR_ok (k := k) h
  have e : R.take i ++ R.drop i = R := List.take_append_drop i R
  have h1 : ∀ p ∈ R.take i, p.lev ≤ k := fun p hp => by
    rw [← hi] at hp
    simpa using (List.mem_filter.1 hp).2
  have h2 : (R.drop i).filter (fun p => decide (p.lev ≤ k)) = [] := by
    have h3 : cutR R k = (R.take i).filter (fun p => decide (p.lev ≤ k)) ++ (R.drop i).filter (fun p => decide (p.lev ≤ k)) := by
      unfold cutR; rw [← List.filter_append, e]
    rw [List.filter_eq_self.2 (fun p hp => decide_eq_true (h1 p hp)), hi] at h3
    exact (List.append_cancel_left (by simpa using h3 : R.take i ++ [] = R.take i ++ _)).symm
  have h4 : hiR R k = (R.take i).filter (fun p => decide (k < p.lev)) ++ (R.drop i).filter (fun p => decide (k < p.lev)) := by
    unfold hiR; rw [← List.filter_append, e]
  rw [h4]
  have h5 : (R.take i).filter (fun p => decide (k < p.lev)) = [] := by
    rw [List.filter_eq_nil_iff]
    intro p hp
    have := h1 p hp
    simp; omega
  have h6 : (R.drop i).filter (fun p => decide (k < p.lev)) = R.drop i := by
    rw [List.filter_eq_self]
    intro p hp
    have := List.filter_eq_nil_iff.1 h2 p hp
    simp at this ⊢; omega
  rw [h5, h6, List.nil_append, hi, List.length_take]
  by_cases hl : i ≤ R.length
  · rw [Nat.min_eq_left hl]
  · rw [Nat.min_eq_right (by omega), List.drop_length, List.drop_eq_nil_of_le (by omega)]
theorem now_cut {n : Nat} {R : List Pl} {k : Nat} (h : okT n R) (hk : k ≤ now R) : now (cutR R k) = k := by
  by_cases hlt : k < now R
  · obtain ⟨i, _, _, _, hc, hn⟩ := lvs_next h hlt
    rw [hc, hn]
  · rw [cut_full h (by omega)]; omega
theorem cut_more {R : List Pl} {k j : Nat} (h : j < R.length) : cutR (R.take (j + 1)) k = cutR (R.take j) k ++ (if R[j].lev ≤ k then [R[j]] else []) := by
  unfold cutR
  rw [List.take_succ_eq_append_getElem h, List.filter_append]
  congr 1
  simp only [List.filter_cons, List.filter_nil, decide_eq_true_eq]
theorem hi_more {R : List Pl} {k j : Nat} (h : j < R.length) : ((hiR (R.drop j) k).map Pl.lit).reverse = ((hiR (R.drop (j + 1)) k).map Pl.lit).reverse ++ (if k < R[j].lev then [R[j].lit] else []) := by
  have : R.drop j = R[j] :: R.drop (j + 1) := List.drop_eq_getElem_cons h
  unfold hiR
  rw [this, List.filter_cons]
  simp only [decide_eq_true_eq]
  split <;> simp
end Go.Proofs.Ytjcgfigbbbefcaa
