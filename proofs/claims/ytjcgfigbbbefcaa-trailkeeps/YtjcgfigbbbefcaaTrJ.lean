/-
  trail: the document's Back and Look, walked.
  KEEP: set on app at below new trans refl start ap kept rd rds mono
-/
import Derived.Test.YtjcgfigbbbefcaaTrI
set_option linter.unusedSimpArgs false
set_option linter.unusedVariables false
namespace Go.Proofs.Ytjcgfigbbbefcaa
open Go Go.RowKit

theorem rBack_out (b : Nat) (u : Value) (n : Nat) (R : List Pl) (k : Int) (w : World) (h : Rf w b u n R) (hk : ¬ inR R k) :
    Calls Try.prog 32 #[.pointer (some ⟨b, 0, none⟩), .int .i64 k] w fun e w' => e = .returned (.tuple #[.slice none 0 0, .int .i64 2]) ∧ w' = w := by
  have c2 := h.box.c.2.2
  clear h
  unfold inR at hk
  generalize now R = N at *
  by_cases h0 : k < 0
  · clear hk
    go_enter Try.func32, Try.ntmps32
    go_wp2
    go_ret2
    exact ⟨rfl, rfl⟩
  · have h1 : (N : Int) < k := by omega
    clear hk
    go_enter Try.func32, Try.ntmps32
    go_wp2
    go_ret2
    exact ⟨rfl, rfl⟩
set_option maxRecDepth 100000 in
set_option maxHeartbeats 6400000 in
theorem rBack_in (b : Nat) (u : Value) (n : Nat) (R : List Pl) (k : Nat) (w : World) (h : Rf w b u n R) (hk : k ≤ now R) :
    Calls Try.prog 32 #[.pointer (some ⟨b, 0, none⟩), .int .i64 (k : Int)] w fun e w' => ∃ v u', e = .returned (.tuple #[v, .int .i64 0]) ∧ Own w.heap.size w' v ((hiR R k).map Pl.lit).reverse ∧ Rf w' b u' n (cutR R k) ∧ Mg w (rown b u) w' (rown b u') := by
  have HR : Hid (Rf w b u n R) := h
  have hlen := h.ok.len
  have hN := h.n
  have c2 := h.box.c.2.2
  have c1 := h.box.c.2.1
  obtain ⟨i0, hi0, hz0, hz1, hz2⟩ := info_parts infoPl
  obtain ⟨a, c, rfl⟩ := row_form' h.row
  have HOk : Hid (okT n (cutR R k)) := (cutR_ok h.ok).1
  have HNc : Hid (now (cutR R k) = k) := now_cut h.ok hk
  clear h
  generalize now R = N at *
  generalize hM : R.length = M at *
  have HM : Hid (R.length = M) := hM
  clear hM
  go_enter Try.func32, Try.ntmps32
  go_wp2
  clear c1 c2
  have hNk : decide (N < k) = false := by simp; omega
  simp only [hNk, Bool.or_false]
  clear hNk
  go_loopg [6, 8] M (fun g v i' wr => ∃ i : Nat, i = g ∧ i ≤ M ∧ i' = .int .i64 ((i : Int) - 1) ∧ Own w.heap.size wr v ((hiR (R.drop i) k).map Pl.lit).reverse ∧ Below w.heap.size w wr)
  case atStart => exact ⟨M, rfl, Nat.le_refl _, rfl, by rw [← HM.out, List.drop_length]; exact World.ownsRow_nil _ _ _ _, Below.refl _ _⟩
  case round =>
    obtain ⟨i, rfl, hiM, rfl, own, bel⟩ := hrel
    have HRr : Hid (Rf wr b (.slice a M c) n R) := HR.out.below bel
    have c1 := HRr.out.box.c.2.1
    rcases Nat.eq_zero_or_pos i with rfl | hpos
    · rw [List.drop_zero] at own
      generalize hHO : ((hiR R k).map Pl.lit).reverse = HO at *
      have HHO : Hid (((hiR R k).map Pl.lit).reverse = HO) := hHO
      clear hHO
      have HO1 : Hid (Own w.heap.size wr _ HO) := own
      have HB1 : Hid (Below w.heap.size w wr) := bel
      obtain ⟨ao, co, rfl⟩ := own_form own
      clear own bel hiM c1
      obtain ⟨w1, hw1⟩ : ∃ x, x = wr := ⟨wr, rfl⟩
      subst hw1
      have c1 := HRr.out.box.c.2.1
      go_wp2
      clear c1
      go_loopg [7, 9] M (fun g v i' wq => ∃ j : Nat, j + g = M ∧ i' = .int .i64 j ∧ wq.ownsRow w1.heap.size 90 3 v (cutR (R.take j) k).length (thr (cutR (R.take j) k)) ∧ Below w1.heap.size w1 wq)
      case atStart => exact ⟨0, by omega, rfl, by rw [List.take_zero]; exact World.ownsRow_nil _ _ _ _, Below.refl _ _⟩
      case round =>
        obtain ⟨j, hj, rfl, ownL, belL⟩ := hrel
        have HJ : Hid (j + gk = M) := hj
        have HRq : Hid (Rf wr b (.slice a M c) n R) := HRr.out.below belL
        have c1 := HRq.out.box.c.2.1
        by_cases hlt : j < M
        · have hjR : j < R.length := by rw [HM.out]; exact hlt
          have hrow := HRq.out.row
          rw [← HM.out] at hrow
          obtain ⟨g, rfl, d0, d1, d2⟩ := rf_cell (b := b) (n := n) hrow hjR
          have hz := cut_more (k := k) hjR
          have hcl : (cutR (R.take j) k).length ≤ 1048576 := by
            have h1 : (cutR (R.take j) k).length ≤ (R.take j).length := List.length_filter_le _ _
            have h2 : (R.take j).length ≤ j := List.length_take_le j R
            omega
          clear hrow hj
          generalize R[j] = p at *
          by_cases hle : p.lev ≤ k
          · rw [if_pos hle] at hz
            have HZ : Hid (cutR (R.take (j + 1)) k = cutR (R.take j) k ++ [p]) := hz
            have HTh : Hid (thr (cutR (R.take j) k ++ [p]) = thr (cutR (R.take j) k) ++ [.int .i64 p.lit, .int .i64 p.lev, .int .i64 p.rea]) := by show _ = _; rw [thr_append]; simp [thr]
            have hle' : (p.lev : Int) ≤ k := by omega
            have hszL := belL.size
            have HB9 : Hid (Below wr.heap.size wr (wr.alloc (.cells #[.int .i64 p.lit, .int .i64 p.lev, .int .i64 p.rea] 90))) := below_box _ _
            have HN9 : Hid (∀ j u, [Value.int .i64 p.lit, .int .i64 p.lev, .int .i64 p.rea][j]? = some u → (wr.alloc (.cells #[.int .i64 p.lit, .int .i64 p.lev, .int .i64 p.rea] 90)).cell? ((⟨wr.heap.size, 0, none⟩ : Addr).add j) = some u) := cell3_new wr _ _ _ _
            have HOL := ownL
            have HOn : Hid (∀ (v8 : Value) (w8 : World), w8.ownsRow w1.heap.size 90 3 v8 ((cutR (R.take j) k).length + 1) (thr (cutR (R.take j) k) ++ [.int .i64 p.lit, .int .i64 p.lev, .int .i64 p.rea]) → w8.ownsRow w1.heap.size 90 3 v8 (cutR (R.take (j + 1)) k).length (thr (cutR (R.take (j + 1)) k))) := by
              intro v8 w8 h8
              rw [HZ.out, HTh.out, List.length_append]; exact h8
            clear hz hle HZ HTh
            generalize cutR (R.take j) k = CL at *
            generalize hpl : p.lit = pl at *
            generalize hpv : p.lev = pv at *
            generalize hpr : p.rea = pr at *
            clear hpl hpv hpr
            go_wp2_with (at_builtin; refine wpList_append_own _ rfl _ _ 78 rfl w1.heap.size 90 i0 (.agg #[.int .i64 0, .int .i64 0, .int .i64 0]) 3 24 Try.underlying78 hi0 hz0 hz1 hz2 rfl (by decide) _ CL.length (thr CL) rfl (World.ownsRow.alloc ownL _) _ 1 1 [.int .i64 pl, .int .i64 pv, .int .i64 pr] rfl rfl HN9.out (by simp [Value.oneCell']) (by unfold maxLen; omega) (by omega) (by have := HB9.out.size; omega) ?_; intro v8 w8 own8 gr8 hn8; have F8 : Hid (w8.ownsRow w1.heap.size 90 3 v8 (cutR (R.take (j + 1)) k).length (thr (cutR (R.take (j + 1)) k)) ∧ Below w1.heap.size w1 w8) := ⟨HOn.out v8 w8 own8, (belL.trans (HB9.out.mono hszL)).grown gr8 (by have := HB9.out.size; omega) (fun j hj => (ownL.lt j hj).1)⟩; clear own8 gr8 hn8)
            go_roundg (gk - 1)
            case measure => have := HJ.out; omega
            case rel => exact ⟨j + 1, by have := HJ.out; omega, by go_num, F8.out.1, F8.out.2⟩
          · rw [if_neg hle, List.append_nil] at hz
            have HZ : Hid (cutR (R.take (j + 1)) k = cutR (R.take j) k) := hz
            have hle' : ¬ (p.lev : Int) ≤ k := by omega
            clear hz hle
            generalize hpv : p.lev = pv at *
            clear hpv
            go_wp2
            go_roundg (gk - 1)
            case measure => have := HJ.out; omega
            case rel => exact ⟨j + 1, by have := HJ.out; omega, by go_num, by rw [HZ.out]; exact ownL, belL⟩
        · obtain rfl : M = j := by omega
          rw [← HM.out, List.take_length] at ownL
          have hbw : Below w.heap.size w wr := Below.step HB1.out belL
          have hq1 := HR.out.q.putR (W1 := wr) (S := cutR R k) ⟨hbw.os, hbw.tape, hbw.output, hbw.size, fun x hx _ => hbw.block x hx⟩ (.inr (fun g hg => by
            have h1 := (ownL.lt g hg).1
            have h2 := HB1.out.size
            omega)) (row_mono ownL (Nat.zero_le _))
          have hq2 := hq1.1.setN (k : Int)
          have hbb : b < w.heap.size := HR.out.box.lt
          obtain ⟨al, cl, rfl⟩ := row_form' ownL
          have HF : Hid (Rq ((wr.setCell ⟨b, 1, none⟩ (.slice al (cutR R k).length cl)).setCell ⟨b, 2, none⟩ (.int .i64 k)) b (.slice al (cutR R k).length cl) n k (cutR R k) ∧ Mg w (rown b (.slice a M c)) ((wr.setCell ⟨b, 1, none⟩ (.slice al (cutR R k).length cl)).setCell ⟨b, 2, none⟩ (.int .i64 k)) (rown b (.slice al (cutR R k).length cl))) := ⟨hq2.1, hq1.2.trans hq2.2⟩
          have HOw : Hid (Own w.heap.size ((wr.setCell ⟨b, 1, none⟩ (.slice al (cutR R k).length cl)).setCell ⟨b, 2, none⟩ (.int .i64 k)) (.slice ao HO.length co) HO) := by
            have o1 := HO1.out.below belL
            have hne : ∀ a : Addr, a.block = b → (Value.slice ao HO.length co).ownBlock ≠ some a.block := fun a ha e => by
              have := (o1.lt _ e).1
              rw [ha] at this
              omega
            exact ownsRow_setCell_other (ownsRow_setCell_other o1 (hne _ rfl) _) (hne _ rfl) _
          have y1 := HRq.out.box.c.2.1
          have y2 := HRq.out.box.c.2.2
          have x1 := HRq.out.box.fz 1
          have x2 := hq1.1.box.fz 2
          have y3 := hq1.1.box.c.2.2
          clear hq1 hq2 hbw ownL belL hj HJ
          go_wp2
          go_ret2
          refine ⟨_, _, rfl, by rw [HHO.out]; exact HOw.out, ⟨?_, HF.out.1.row, HOk.out, hN⟩, HF.out.2⟩
          have := HF.out.1.box
          rw [HNc.out]; exact this
    · obtain ⟨q, rfl⟩ : ∃ q, i = q + 1 := ⟨i - 1, by omega⟩
      have hqR : q < R.length := by rw [HM.out]; omega
      have hrow := HRr.out.row
      rw [← HM.out] at hrow
      obtain ⟨g, rfl, d0, d1, d2⟩ := rf_cell (b := b) (n := n) hrow hqR
      have hz := hi_more (k := k) hqR
      have hhl : ((hiR (R.drop (q + 1)) k).map Pl.lit).reverse.length ≤ 1048576 := by
        rw [List.length_reverse, List.length_map]
        have h1 : (hiR (R.drop (q + 1)) k).length ≤ (R.drop (q + 1)).length := List.length_filter_le _ _
        rw [List.length_drop] at h1
        have := HM.out
        omega
      have HNx : Hid (((q + 1 : Nat) : Int) - 1 = (q : Int)) := by show _ = _; omega
      rw [HNx.out]
      clear hrow hpos
      generalize R[q].lit = pl at *
      generalize R[q].lev = pv at *
      generalize ((hiR (R.drop (q + 1)) k).map Pl.lit).reverse = HL at *
      by_cases hgt : k < pv
      · rw [if_pos hgt] at hz
        have HZ : Hid (((hiR (R.drop q) k).map Pl.lit).reverse = HL ++ [pl]) := hz
        clear hz
        have hsz := bel.size
        have HR1 : Hid (Rd (wr.alloc (.cells #[.int .i64 pl] 3)) (.slice (some ⟨wr.heap.size, 0, none⟩) 1 1) [pl]) := rd_one' wr pl
        have HB9 : Hid (Below wr.heap.size wr (wr.alloc (.cells #[.int .i64 pl] 3))) := below_box _ _
        go_wp2_with (at_builtin; refine wpList_app_rd rfl _ _ rfl w.heap.size _ _ HL [pl] rfl rfl (own.below HB9.out) HR1.out (by simp only [List.length_cons, List.length_nil]; omega) (by have := HB9.out.size; omega) ?_; intro v8 w8 own8 ap8; have F8 : Hid (Own w.heap.size w8 v8 ((hiR (R.drop q) k).map Pl.lit).reverse ∧ Below w.heap.size w w8) := ⟨by rw [HZ.out]; exact own8, (bel.trans (HB9.out.mono hsz)).grown ap8.grown (by have := HB9.out.size; omega) (fun j hj => (own.lt j hj).1)⟩; clear own8 ap8)
        go_roundg q
        case measure => omega
        case rel => exact ⟨q, rfl, by omega, by go_num, F8.out.1, F8.out.2⟩
      · rw [if_neg hgt, List.append_nil] at hz
        have HZ : Hid (((hiR (R.drop q) k).map Pl.lit).reverse = HL) := hz
        clear hz
        go_wp2
        go_roundg q
        case measure => omega
        case rel => exact ⟨q, rfl, by omega, by go_num, by rw [HZ.out]; exact own, bel⟩

theorem rBack_any (b : Nat) (u : Value) (n : Nat) (R : List Pl) (k : Int) (w : World) (h : Rf w b u n R) :
    Calls Try.prog 32 #[.pointer (some ⟨b, 0, none⟩), .int .i64 k] w fun e w' => ∃ v u', e = .returned (.tuple #[v, .int .i64 (backE R k)]) ∧ Own w.heap.size w' v (backO R k) ∧ Rf w' b u' n (backF R k) ∧ Mg w (rown b u) w' (rown b u') := by
  by_cases hk : inR R k
  · have e1 : backE R k = 0 := by unfold backE; rw [if_pos hk]
    have e2 : backF R k = cutR R k.toNat := by unfold backF; rw [if_pos hk]
    have e3 : backO R k = ((R.drop (cutR R k.toNat).length).map Pl.lit).reverse := by unfold backO; rw [if_pos hk]
    rw [e1, e2, e3]
    obtain ⟨j, rfl⟩ : ∃ j : Nat, k = j := ⟨k.toNat, by have := hk.1; omega⟩
    rw [Int.toNat_natCast, ← cut_rest h.ok]
    exact rBack_in b u n R j w h (by have := hk.2; omega)
  · have e1 : backE R k = 2 := by unfold backE; rw [if_neg hk]
    have e2 : backF R k = R := by unfold backF; rw [if_neg hk]
    have e3 : backO R k = [] := by unfold backO; rw [if_neg hk]
    rw [e1, e2, e3]
    exact (rBack_out b u n R k w h hk).mono fun e w' ⟨he, hw⟩ => by
      subst hw
      exact ⟨_, u, he, World.ownsRow_nil _ _ _ _, h, Mg.refl _ _⟩

theorem lkF_mono {n : Nat} {R : List Pl} {zs : List Int} {k : Nat} (h : (lkF n R (zs.take k)).2 = true) : (lkF n R zs).2 = true := by
  have e : zs = zs.take k ++ zs.drop k := (List.take_append_drop _ _).symm
  have key : ∀ (l : List Int) (st : Int × Bool), st.2 = true → (l.foldl (lkS n R) st).2 = true := by
    intro l
    induction l with
    | nil => intro st h; exact h
    | cons x r ih =>
      intro st h
      refine ih _ ?_
      unfold lkS
      split
      · simp [h]
      · exact h
  rw [e]
  unfold lkF at h ⊢
  rw [List.foldl_append]
  exact key _ _ h

set_option maxRecDepth 100000 in
set_option maxHeartbeats 6400000 in
theorem rLook_any (b : Nat) (u : Value) (n : Nat) (R : List Pl) (v : Value) (zs : List Int) (w : World) (h : Rf w b u n R) (hr : Rd w v zs) :
    Calls Try.prog 40 #[.pointer (some ⟨b, 0, none⟩), v] w fun e w' => e = .returned (.tuple #[.int .i8 (lookF n R zs).1, .int .i64 (lookF n R zs).2]) ∧ Below w.heap.size w w' := by
  have HR : Hid (Rf w b u n R) := h
  obtain ⟨a, c, rfl, hl8, hcell⟩ := rd_at hr
  have HC : Hid (∀ j, j < zs.length → ∃ g off, a = some ⟨g, off, none⟩ ∧ g < w.heap.size ∧ w.cell? ⟨g, off + j, none⟩ = some (.int .i64 (zs.getD j 0))) := hcell
  clear h hr hcell
  go_enter Try.func40, Try.ntmps40
  go_wp2
  go_loopg [6] zs.length (fun g i' wr => ∃ k : Nat, k + g = zs.length ∧ i' = .int .i64 k ∧ (zs.take k).all (litN n) = true ∧ wr = w)
  case atStart => exact ⟨0, by omega, rfl, by simp, rfl⟩
  case round =>
    obtain ⟨k, hk, rfl, hall, rfl⟩ := hrel
    have HK : Hid (k + gk = zs.length) := hk
    have HA : Hid ((zs.take k).all (litN n) = true) := hall
    clear hall
    by_cases hlt : k < zs.length
    · obtain ⟨g, off, rfl, hg, d0⟩ := HC.out k hlt
      have HT : Hid ((zs.take (k + 1)).all (litN n) = ((zs.take k).all (litN n) && litN n (zs.getD k 0))) := take_all hlt
      have HNo : Hid (litN n (zs.getD k 0) = false → zs.all (litN n) = false) := all_no hlt
      clear hk
      generalize zs.getD k 0 = z at *
      have HO := rOwn_any b u n R z wr HR.out
      cases hz : litN n z with
      | true =>
        rw [hz] at HO
        have HO1 : Hid (Calls Try.prog 53 #[.pointer (some ⟨b, 0, none⟩), .int .i64 z] wr fun e w' => e = .returned (.bool true) ∧ w' = wr) := HO
        clear HO
        go_wp2_with fail
        refine HO1.out.mono ?_
        rintro e w2 ⟨rfl, rfl⟩
        go_wp2
        go_roundg (gk - 1)
        case measure => have := HK.out; omega
        case rel => exact ⟨k + 1, by have := HK.out; omega, by go_num, by rw [HT.out, HA.out, hz]; rfl, rfl⟩
      | false =>
        rw [hz] at HO
        have HO1 : Hid (Calls Try.prog 53 #[.pointer (some ⟨b, 0, none⟩), .int .i64 z] wr fun e w' => e = .returned (.bool false) ∧ w' = wr) := HO
        clear HO
        have HE : Hid (lookF n R zs = (0, 0)) := by show _ = _; unfold lookF; rw [HNo.out hz]; rfl
        go_wp2_with fail
        refine HO1.out.mono ?_
        rintro e w2 ⟨rfl, rfl⟩
        go_wp2
        go_ret2
        exact ⟨by rw [HE.out]; rfl, Below.refl _ _⟩
    · obtain rfl : k = zs.length := by omega
      rw [List.take_length] at HA
      have hall := HA.out
      have HL : Hid (lookF n R zs = (match zs.find? (tru n R) with | some l => (1, l) | none => if (lkF n R zs).2 then (0, 0) else if (lkF n R zs).1 ≠ 0 then (2, (lkF n R zs).1) else (-1, 0))) := by show _ = _; unfold lookF; rw [hall]; rfl
      clear hk HK hall
      go_wp2
      go_loopg [7] zs.length (fun g i' wr2 => ∃ k : Nat, k + g = zs.length ∧ i' = .int .i64 k ∧ (zs.take k).find? (tru n R) = none ∧ wr2 = wr)
      case atStart => exact ⟨0, by omega, rfl, by simp, rfl⟩
      case round =>
        obtain ⟨k, hk, rfl, hnf, rfl⟩ := hrel
        have HK : Hid (k + gk = zs.length) := hk
        have HNf : Hid ((zs.take k).find? (tru n R) = none) := hnf
        clear hnf
        by_cases hlt : k < zs.length
        · obtain ⟨g, off, rfl, hg, d0⟩ := HC.out k hlt
          have HFm : Hid ((zs.take (k + 1)).find? (tru n R) = ((zs.take k).find? (tru n R)).or (if tru n R (zs.getD k 0) then some (zs.getD k 0) else none)) := find_more hlt
          have HFf : Hid (tru n R (zs.getD k 0) = true → zs.find? (tru n R) = some (zs.getD k 0)) := find_first hlt HNf.out
          clear hk
          have HV1 : Hid (Calls Try.prog 37 #[.pointer (some ⟨b, 0, none⟩), .int .i64 (zs.getD k 0)] wr fun e w' => e = .returned (.int .i8 (valL n R (zs.getD k 0))) ∧ w' = wr) := rValue_any b u n R _ wr HR.out
          have HTr : Hid (tru n R (zs.getD k 0) = decide (valL n R (zs.getD k 0) = 1)) := rfl
          rw [HTr.out] at HFm HFf
          rw [HNf.out] at HFm
          clear HTr
          generalize zs.getD k 0 = z at *
          generalize valL n R z = q at *
          by_cases hq : q = 1
          · subst hq
            have HE : Hid (lookF n R zs = (1, z)) := by show _ = _; rw [HL.out, HFf.out rfl]
            go_wp2_with fail
            refine HV1.out.mono ?_
            rintro e w2 ⟨rfl, rfl⟩
            go_upto_region 10 with fail
            go_quiet (fail)
            go_wp2
            go_ret2
            exact ⟨by rw [HE.out]; rfl, below_drewN _ _⟩
          · have hq2 : (q == 1) = false := by simp [hq]
            have HFn : Hid ((zs.take (k + 1)).find? (tru n R) = none) := by show _ = _; rw [HFm.out]; simp [hq]
            go_wp2_with fail
            refine HV1.out.mono ?_
            rintro e w2 ⟨rfl, rfl⟩
            go_wp2
            go_roundg (gk - 1)
            case measure => have := HK.out; omega
            case rel => exact ⟨k + 1, by have := HK.out; omega, by go_num, HFn.out, rfl⟩
        · obtain rfl : k = zs.length := by omega
          rw [List.take_length] at HNf
          rw [HNf.out] at HL
          clear hk HK
          go_wp2
          go_loopg [8, 9] zs.length (fun g v8 i' wr2 => ∃ k : Nat, k + g = zs.length ∧ i' = .int .i64 k ∧ v8 = .int .i64 (lkF n R (zs.take k)).1 ∧ (lkF n R (zs.take k)).2 = false ∧ wr2 = wr)
          case atStart => exact ⟨0, by omega, rfl, rfl, rfl, rfl⟩
          case round =>
            obtain ⟨k, hk, rfl, rfl, hmr, rfl⟩ := hrel
            have HK : Hid (k + gk = zs.length) := hk
            by_cases hlt : k < zs.length
            · obtain ⟨g, off, rfl, hg, d0⟩ := HC.out k hlt
              have HLk : Hid (lkF n R (zs.take (k + 1)) = lkS n R (lkF n R (zs.take k)) (zs.getD k 0)) := lkF_more hlt
              have HMo : Hid ((lkF n R (zs.take (k + 1))).2 = true → (lkF n R zs).2 = true) := lkF_mono
              clear hk
              have HV1 : Hid (Calls Try.prog 37 #[.pointer (some ⟨b, 0, none⟩), .int .i64 (zs.getD k 0)] wr fun e w' => e = .returned (.int .i8 (valL n R (zs.getD k 0))) ∧ w' = wr) := rValue_any b u n R _ wr HR.out
              have HLs : Hid (∀ st, lkS n R st (zs.getD k 0) = if valL n R (zs.getD k 0) = 0 then (zs.getD k 0, st.2 || (decide (st.1 ≠ 0) && decide (st.1 ≠ zs.getD k 0))) else st) := fun _ => rfl
              rw [HLs.out] at HLk
              clear HLs
              generalize zs.getD k 0 = z at *
              generalize hst : lkF n R (zs.take k) = st at *
              clear hst
              obtain ⟨o, mr⟩ := st
              dsimp only at *
              subst hmr
              generalize valL n R z = q at *
              by_cases hq : q = 0
              · subst hq
                rw [if_pos rfl] at HLk
                by_cases hzo : z = o
                · subst hzo
                  go_wp2_with fail
                  refine HV1.out.mono ?_
                  rintro e w2 ⟨rfl, rfl⟩
                  go_wp2
                  go_roundg (gk - 1)
                  case measure => have := HK.out; omega
                  case rel => exact ⟨k + 1, by have := HK.out; omega, by go_num, by rw [HLk.out], by rw [HLk.out]; simp, rfl⟩
                · have hzo2 : (z == o) = false := by simp [hzo]
                  by_cases ho : o = 0
                  · subst ho
                    go_wp2_with fail
                    refine HV1.out.mono ?_
                    rintro e w2 ⟨rfl, rfl⟩
                    go_wp2
                    go_roundg (gk - 1)
                    case measure => have := HK.out; omega
                    case rel => exact ⟨k + 1, by have := HK.out; omega, by go_num, by rw [HLk.out], by rw [HLk.out]; simp, rfl⟩
                  · have ho2 : (o == 0) = false := by simp [ho]
                    have HE : Hid (lookF n R zs = (0, 0)) := by
                      have h9 := HMo.out (by rw [HLk.out]; simp [ho]; exact fun e => hzo e.symm)
                      show _ = _; rw [HL.out]; simp [h9]
                    go_wp2_with fail
                    refine HV1.out.mono ?_
                    rintro e w2 ⟨rfl, rfl⟩
                    go_wp2
                    go_ret2
                    exact ⟨by rw [HE.out]; rfl, Below.refl _ _⟩
              · have hq2 : (q == 0) = false := by simp [hq]
                rw [if_neg hq] at HLk
                go_wp2_with fail
                refine HV1.out.mono ?_
                rintro e w2 ⟨rfl, rfl⟩
                go_wp2
                go_roundg (gk - 1)
                case measure => have := HK.out; omega
                case rel => exact ⟨k + 1, by have := HK.out; omega, by go_num, by rw [HLk.out], by rw [HLk.out], rfl⟩
            · obtain rfl : k = zs.length := by omega
              rw [List.take_length] at hmr ⊢
              rw [hmr] at HL
              clear hk HK
              generalize (lkF n R zs).1 = o at *
              by_cases ho : o = 0
              · subst ho
                go_wp2
                go_ret2
                exact ⟨by rw [HL.out]; rfl, Below.refl _ _⟩
              · have ho2 : (o == 0) = false := by simp [ho]
                have HE : Hid (lookF n R zs = (2, o)) := by show _ = _; rw [HL.out]; simp [ho]
                go_wp2
                go_ret2
                exact ⟨by rw [HE.out]; rfl, Below.refl _ _⟩
end Go.Proofs.Ytjcgfigbbbefcaa
