/-
  rup: enter (written by walks/gene8.py out of unit's).
  KEEP: set on app at below new trans refl start ap kept rd rds mono lt add none own nil put len pos setF setV putL putR other neV same_any
-/
import Derived.Test.YtkinilhapgagcaaDoorOnH
import Derived.Test.YtkinilhapgagcaaDoorUnE
set_option linter.unusedSimpArgs false
set_option linter.unusedVariables false
namespace Go.Proofs.YtkinilhapgagcaaDoor
open Go Go.RowKit

/-- what isn't false under K -/
def flt (K c : List Int) : List Int := c.filter (fun l => decide (-l ∉ K))
theorem flt_len (K c : List Int) : (flt K c).length ≤ c.length := List.length_filter_le _ _
theorem flt_mem {K c : List Int} {x : Int} : x ∈ flt K c ↔ x ∈ c ∧ -x ∉ K := by unfold flt; rw [List.mem_filter, decide_eq_true_eq]
theorem flt_no {K c : List Int} {j : Nat} (hj : j < c.length) (h : -(c.getD j 0) ∈ K) : flt K (c.take (j + 1)) = flt K (c.take j) := by
  rw [take_succ_getD c 0 j hj]
  unfold flt
  rw [List.filter_append, List.filter_cons, if_neg (by simpa using h), List.filter_nil, List.append_nil]
theorem flt_yes {K c : List Int} {j : Nat} (hj : j < c.length) (h : -(c.getD j 0) ∉ K) : flt K (c.take (j + 1)) = flt K (c.take j) ++ [c.getD j 0] := by
  rw [take_succ_getD c 0 j hj]
  unfold flt
  rw [List.filter_append, List.filter_cons, if_pos (by simpa using h), List.filter_nil]
/-- a closing that is being laid -/
structure Ov (w0 W : World) (b : Nat) (s : Sy) (n : Nat) (K : List Int) (X : List (List Int)) : Prop where
  bel : Below w0.heap.size w0 W
  fit : Fit X n
  z : ∃ F P, Oz w0.heap.size W b s n X.length (inLs n K) (lefts X []) F P [] [] ∧ Pls X n F P ∧ P.length ≤ lsum X + 1
theorem Ov.below {w0 W W' : World} {b : Nat} {s : Sy} {n : Nat} {K : List Int} {X : List (List Int)} (h : Ov w0 W b s n K X) (hb : Below W.heap.size W W') : Ov w0 W' b s n K X := by
  obtain ⟨F, P, hz, hp⟩ := h.z
  exact ⟨Below.step h.bel hb, h.fit, F, P, hz.below hb, hp⟩
structure En8 (w0 w W : World) (b : Nat) (s : Sy) (u : Value) (n : Nat) (K : List Int) (X : List (List Int)) : Prop where
  ce : Ov w0 W b { s with P := u } n K X
  mo : Mo w (s.own b) W (({ s with P := u } : Sy).own b)
theorem En8.below {w0 w W W' : World} {b : Nat} {s : Sy} {u : Value} {n : Nat} {K : List Int} {X : List (List Int)} (h : En8 w0 w W b s u n K X) (hb : Below W.heap.size W W') : En8 w0 w W' b s u n K X := ⟨h.ce.below hb, h.mo.trans (Mo.below hb)⟩
theorem Ov.same {w0 W : World} {b : Nat} {s : Sy} {n m : Nat} {K : List Int} {X : List (List Int)} {l : Int} (h : Ov w0 W b s n K X) (hm : m < X.length) (hl : l ∈ X.getD m []) (hlen : (X.getD m []).length + 1 ≤ 1073741824) (hf : fmd l = true ∧ idx l < n) : Ov w0 W b s n K (X.set m (X.getD m [] ++ [l])) := by
  obtain ⟨F, P, hz, hp, hP⟩ := h.z
  refine ⟨h.bel, h.fit.set (by simpa using hlen) (fun x hx => ?_), F, P, ?_, hp.same hm hl, ?_⟩
  · rcases List.mem_append.1 hx with a | a
    · exact h.fit.lit _ (getD_in hm) x a
    · rw [show x = l by simpa using a]; exact hf
  · have e : lefts (X.set m (X.getD m [] ++ [l])) [] = lefts X [] := by
      rw [lefts_set, cnt_more, if_pos hl, Nat.add_zero]
      apply List.ext_getElem?
      intro i
      by_cases e : m = i
      · subst e
        rw [List.getElem?_set_self (by simpa [lefts] using hm), lefts_at hm]
      · rw [List.getElem?_set_ne e]
    rw [e, List.length_set]
    exact hz
  · have := lsum_set (c := X.getD m [] ++ [l]) hm
    rw [List.length_append, List.length_singleton] at this
    omega
theorem upto8 {X : List (List Int)} {K : List Int} {m j : Nat} {c : List Int} (hj : j < c.length) (hm : m < X.length) (h : -(c.getD j 0) ∉ K) : (X.set m (flt K (c.take j))).set m ((X.set m (flt K (c.take j))).getD m [] ++ [c.getD j 0]) = X.set m (flt K (c.take (j + 1))) := by
  rw [getD_set_self hm, List.set_set, ← flt_yes hj h]
theorem Tryd.infoPlace8 : (Tryd.prog.info? 108).map (fun i => (i.zero, i.size, i.bytes)) = some (some (.agg #[.int .i32 0, .int .i32 0]), 2, 8) := by kernel_rfl

set_option maxRecDepth 100000 in
set_option maxHeartbeats 4000000 in
theorem oEnter_any (w0 : World) (b : Nat) (s : Sy) (n : Nat) (K : List Int) (X : List (List Int)) (m : Nat) (v : Value) (c : List Int) (w : World) (h : Ov w0 w b s n K X) (hr : Rd w0 v c) (hm : m < X.length) (h0 : X.getD m [] = []) (hgt : ∀ k, m < k → X.getD k [] = []) (hc : ∀ l ∈ c, fmd l = true ∧ idx l < n) (hcl : c.length ≤ 1073741824) (hsum : lsum X + c.length ≤ 2147483647) :
    Calls Tryd.prog 63 #[.pointer (some ⟨b, 0, none⟩), .int .i32 (m : Int), v] w fun e w' => e = .returned (.tuple #[]) ∧ ∃ u, En8 w0 w w' b s u n K (X.set m (flt K c)) := by
  have HS0 : Hid (En8 w0 w w b s s.P n K X) := ⟨h, Mo.refl _ _⟩
  have HB0 : Hid (Below w0.heap.size w0 w ∧ ∀ k, s.own b k → w0.heap.size ≤ k) := ⟨h.bel, fun k hk => by obtain ⟨F, P, hz, _⟩ := h.z; exact (hz.lt k hk).1⟩
  have hX0 : X.set m (flt K (c.take 0)) = X := by
    apply List.ext_getElem?
    intro i
    by_cases e : m = i
    · subst e
      rw [List.getElem?_set_self hm, List.getElem?_eq_getElem hm]
      rw [List.getD_eq_getElem?_getD, List.getElem?_eq_getElem hm] at h0
      simpa [flt] using h0.symm
    · rw [List.getElem?_set_ne e]
  have HX0 : Hid (X.set m (flt K (c.take 0)) = X) := hX0
  obtain ⟨a, cv, rfl, l1, l2, hcell⟩ := hr.form
  have HC : Hid (∀ (W : World) (j : Nat), Below w0.heap.size w0 W → j < c.length → ∃ bb off, a = some ⟨bb, off, none⟩ ∧ W.cell? ⟨bb, off + j, none⟩ = some (.int .i64 (c.getD j 0))) := fun W j hW hj => by
    obtain ⟨bb, off, e, hc⟩ := hcell j hj
    exact ⟨bb, off, e, (hW.cell (p := ⟨bb, off + j, none⟩) (World.block_lt_of_cell? w0 _ hc)).trans hc⟩
  have HX : Hid (m < X.length ∧ (∀ k, m < k → X.getD k [] = []) ∧ (∀ l ∈ c, fmd l = true ∧ idx l < n) ∧ lsum X + c.length ≤ 2147483647 ∧ X.getD m [] = [] ∧ Fit X n) := ⟨hm, hgt, hc, hsum, h0, h.fit⟩
  have hmb : m ≤ 1073741824 := by have := h.fit.num; omega
  have hn := h.fit.hn
  clear h hr hcell hm h0 hgt hc hsum hX0
  go_enter Tryd.func63, Tryd.ntmps63
  go_wp2
  go_loopg [12] c.length (fun g j' wr => ∃ (j : Nat) (u : Value), j + g = c.length ∧ j' = .int .i64 j ∧ En8 w0 w wr b s u n K (X.set m (flt K (c.take j))))
  case atStart => exact ⟨0, s.P, by omega, rfl, by rw [HX0.out]; exact HS0.out⟩
  case round =>
    obtain ⟨j, u, hj, rfl, hen⟩ := hrel
    have HJ : Hid (j + gk = c.length) := hj
    have HEn0 : Hid (En8 w0 w wr b s u n K (X.set m (flt K (c.take j)))) := hen
    clear hj hen
    by_cases hlt : j < c.length
    · obtain ⟨bb, off, rfl, kc⟩ := HC.out wr j HEn0.out.ce.bel hlt
      have hlf := HX.out.2.2.1 _ (getD_mem' (d := 0) hlt)
      have HNo : Hid (-(c.getD j 0) ∈ K → flt K (c.take (j + 1)) = flt K (c.take j)) := flt_no hlt
      have HUp0 : Hid (-(c.getD j 0) ∉ K → (X.set m (flt K (c.take j))).set m ((X.set m (flt K (c.take j))).getD m [] ++ [c.getD j 0]) = X.set m (flt K (c.take (j + 1)))) := upto8 hlt HX.out.1
      have HLT : Hid (j < c.length) := hlt
      generalize c.getD j 0 = l at *
      obtain ⟨i, hi⟩ : ∃ i : Nat, idx l = i := ⟨(idx l).toNat, by have := idx_range hlf.1; omega⟩
      have HI : Hid (idx l = i) := hi
      have hrl := fmd_range hlf.1
      have hwl : IntKind.i64.wrap (-l) = -l := by rw [IntKind.wrap_i64]; omega
      go_wp2_with fail
      refine (index_any _ _).mono ?_
      rintro e w9 ⟨rfl, hw9⟩
      obtain rfl : wr = w9 := hw9.symm
      rw [HI.out]
      clear hw9
      obtain ⟨F0, P0, hz0, -⟩ := HEn0.out.ce.z
      have HTr : Hid (Calls Tryd.prog 89 #[.pointer (some ⟨b, 0, none⟩), .int .i64 (-l)] wr fun e w' => e = .returned (.bool (decide (-l ∈ K))) ∧ Below wr.heap.size wr w') := oTrue_z _ b _ n _ K _ F0 P0 [] [] (-l) wr hz0 hn (fmd_neg hlf.1) (idx_neg_lt hlf.1 HX.out.2.2.2.2.2.ev hlf.2)
      clear hz0 hi
      go_wp2_with fail
      refine HTr.out.mono ?_
      rintro e w1 ⟨rfl, bel1⟩
      have HEn : Hid (En8 w0 w w1 b s u n K (X.set m (flt K (c.take j)))) := HEn0.out.below bel1
      clear bel1 HTr HEn0 kc
      generalize w1 = wr at *
      by_cases hin : -l ∈ K
      · have HFin : Hid (En8 w0 w wr b s u n K (X.set m (flt K (c.take (j + 1))))) := by rw [HNo.out hin]; exact HEn.out
        rw [decide_eq_true hin]
        clear hin HUp0
        go_wp2
        go_roundg (gk - 1)
        case measure => have := HJ.out; have := HLT.out; omega
        case rel => exact ⟨j + 1, u, by have := HJ.out; have := HLT.out; omega, by go_num, HFin.out⟩
      rw [decide_eq_false hin]
      have HUp : Hid ((X.set m (flt K (c.take j))).set m ((X.set m (flt K (c.take j))).getD m [] ++ [l]) = X.set m (flt K (c.take (j + 1)))) := HUp0.out hin
      clear hin HUp0 HNo
      have hmX : m < (X.set m (flt K (c.take j))).length := by rw [List.length_set]; exact HX.out.1
      have hgtX : ∀ k, m < k → (X.set m (flt K (c.take j))).getD k [] = [] := fun k hk => by rw [getD_set_ne (by omega)]; exact HX.out.2.1 k hk
      have hgm : (X.set m (flt K (c.take j))).getD m [] = flt K (c.take j) := getD_set_self HX.out.1
      have hfl := flt_len K (c.take j)
      rw [List.length_take] at hfl
      have hlsX : lsum (X.set m (flt K (c.take j))) ≤ lsum X + j := by
        have h9 := lsum_set (c := flt K (c.take j)) HX.out.1
        rw [HX.out.2.2.2.2.1, List.length_nil] at h9
        omega
      have hlenX : ((X.set m (flt K (c.take j))).getD m []).length + 1 ≤ 1073741824 := by rw [hgm]; omega
      have hsumX : lsum (X.set m (flt K (c.take j))) + 1 ≤ 2147483647 := by have := HX.out.2.2.2.1; omega
      generalize X.set m (flt K (c.take j)) = Y at *
      have hi : idx l = i := HI.out
      have hin : i < n := by omega
      obtain ⟨F, P, hz, hp, hP⟩ := HEn.out.ce.z
      obtain ⟨p, hpi⟩ : ∃ p, F[i]? = some p := ⟨_, List.getElem?_eq_getElem (by rw [hp.len]; exact hin)⟩
      have hseen := hp.seen hmX hgtX hlf.1 hi hpi
      have hplt := (hp.ch i p hpi).1
      obtain ⟨gF, cF, eF0, f1, f2, f3⟩ := row_some hz.f (by omega)
      have eF : s.F = .slice (some ⟨gF, 0, none⟩) n cF := eF0
      clear eF0
      have b3 : wr.cell? ⟨b, 3, none⟩ = some s.F := hz.c3
      have rF : wr.ownsRow w0.heap.size 21 1 s.F n (i32s (nats F)) := hz.f
      rw [eF] at b3 rF
      have kF := row_cell rF (j := i) (x := .int .i32 (p : Int)) (by unfold i32s nats; rw [List.getElem?_map, List.getElem?_map, hpi]; rfl)
      have zF := row_fz rF i
      obtain ⟨gP, cP, eP0, p1, p2, p3⟩ := row_some hz.p (by have := hp.pos; omega)
      have eP : u = .slice (some ⟨gP, 0, none⟩) P.length cP := eP0
      clear eP0
      have b4 : wr.cell? ⟨b, 4, none⟩ = some u := hz.c4
      have rP : wr.ownsRow w0.heap.size 108 2 u P.length (twp P) := hz.p
      rw [eP] at b4 rP
      have hPb : P.length ≤ 2147483647 := by omega
      by_cases hsn : l ∈ Y.getD m []
      · obtain ⟨q, hp0, hPp⟩ := hseen.1 hsn
        have kP := row_cell rP (twp_at hPp).1
        have HF : Hid (En8 w0 w wr b s u n K (X.set m (flt K (c.take (j + 1))))) := ⟨by rw [← HUp.out]; exact HEn.out.ce.same hmX hsn hlenX hlf, HEn.out.mo⟩
        have hmm : ((m : Int) == (m : Int)) = true := by simp
        clear hz hp hP hseen rF rP hsn hPp hlf eP eF hi hgm hgtX hlsX hfl hlenX hsumX hmX hpi
        generalize P.length = Pn at *
        go_wp2
        go_roundg (gk - 1)
        case measure => have := HJ.out; have := HLT.out; omega
        case rel => exact ⟨j + 1, u, by have := HJ.out; have := HLT.out; omega, by go_num, HF.out⟩
      · have hno : ¬ ∃ q, 0 < p ∧ P[p]? = some (m, q) := fun h2 => hsn (hseen.2 h2)
        have HZ : Hid (Oz w0.heap.size wr b { s with P := u } n Y.length (inLs n K) (lefts Y []) F P [] [] ∧ Pls Y n F P ∧ P.length ≤ lsum Y + 1) := ⟨hz, hp, hP⟩
        have HY : Hid (m < Y.length ∧ (∀ k, m < k → Y.getD k [] = []) ∧ l ∉ Y.getD m [] ∧ fmd l = true ∧ idx l < n ∧ (Y.getD m []).length + 1 ≤ 1073741824 ∧ F[i]? = some p ∧ lsum Y + 1 ≤ 2147483647) := ⟨hmX, hgtX, hsn, hlf.1, hlf.2, hlenX, hpi, hsumX⟩
        have HEF : Hid (s.F = .slice (some ⟨gF, 0, none⟩) n cF) := eF
        have HEP : Hid (u = .slice (some ⟨gP, 0, none⟩) P.length cP) := eP
        obtain ⟨i0, hi0, hz0, hz1, hz2⟩ := info_parts Tryd.infoPlace8
        have HInf : Hid (Tryd.prog.info? 108 = some i0 ∧ i0.zero = some (.agg #[.int .i32 0, .int .i32 0]) ∧ i0.size = 2 ∧ i0.bytes = 8) := ⟨hi0, hz0, hz1, hz2⟩
        have HFz : Hid (∀ W, Below wr.heap.size wr W → W.frozen? ⟨b, 4, none⟩ = false) := fun W hW => (hz.below hW).fz 4
        have z4 := hz.fz 4
        have b4a : (wr.alloc (.cells #[.int .i32 (m : Int), .int .i32 (p : Int)] 108)).cell? ⟨b, 4, none⟩ = some (.slice (some ⟨gP, 0, none⟩) P.length cP) := (World.cell?_alloc_lt _ _ _ (World.block_lt_of_cell? wr _ b4)).trans b4
        -- what the append gives
        have HApp : Hid (∀ v8 w8, w8.ownsRow w0.heap.size 108 2 v8 (P.length + 1) (twp P ++ [.int .i32 (m : Int), .int .i32 (p : Int)]) → Ap (wr.alloc (.cells #[.int .i32 (m : Int), .int .i32 (p : Int)] 108)).drew (.slice (some ⟨gP, 0, none⟩) P.length cP) w8 v8 →
            (∃ a8 c8, v8 = .slice a8 (P.length + 1) c8) ∧ w8.cell? ⟨b, 4, none⟩ = some (.slice (some ⟨gP, 0, none⟩) P.length cP) ∧ w8.frozen? ⟨b, 4, none⟩ = false ∧
            Oz w0.heap.size (w8.setCell ⟨b, 4, none⟩ v8) b { s with P := v8 } n Y.length (inLs n K) (lefts Y []) F (P ++ [(m, p)]) [] [] ∧ Mo w (s.own b) (w8.setCell ⟨b, 4, none⟩ v8) (({ s with P := v8 } : Sy).own b)) := fun v8 w8 own8 ap8 => by
          have bb : Below wr.heap.size wr (wr.alloc (.cells #[.int .i32 (m : Int), .int .i32 (p : Int)] 108)).drew := (below_box _ _).drew
          have hzA := hz.below bb
          have own9 : w8.ownsRow w0.heap.size 108 2 v8 (P ++ [(m, p)]).length (twp (P ++ [(m, p)])) := by
            rw [twp_snoc, List.length_append]; exact own8
          have ap9 : Ap (wr.alloc (.cells #[.int .i32 (m : Int), .int .i32 (p : Int)] 108)).drew u w8 v8 := by rw [eP]; exact ap8
          obtain ⟨z9, m9⟩ := hzA.putP ap9.grown ap9.new own9
          have ht : ∀ x, u.ownBlock = some x → Ty _ x 108 := fun x e => row_ty hzA.p e.symm
          have hbx := box_other hzA.box ap9.grown ht (by decide)
          exact ⟨row_form' own8, by simp [World.cell?, hbx]; exact eP, by simp [World.frozen?, hbx], z9, (HEn.out.mo.trans (Mo.below bb)).trans m9⟩
        have HRow : Hid ((wr.alloc (.cells #[.int .i32 (m : Int), .int .i32 (p : Int)] 108)).drew.ownsRow w0.heap.size 108 2 (.slice (some ⟨gP, 0, none⟩) P.length cP) P.length (twp P) ∧ w0.heap.size ≤ (wr.alloc (.cells #[.int .i32 (m : Int), .int .i32 (p : Int)] 108)).drew.heap.size) := by
          have bb : Below wr.heap.size wr (wr.alloc (.cells #[.int .i32 (m : Int), .int .i32 (p : Int)] 108)).drew := (below_box _ _).drew
          have := (hz.below bb).p
          rw [← eP]
          exact ⟨this, Nat.le_trans HEn.out.ce.bel.size bb.size⟩
        have HNew : Hid (∀ j x, [Value.int .i32 (m : Int), Value.int .i32 (p : Int)][j]? = some x → (wr.alloc (.cells #[.int .i32 (m : Int), .int .i32 (p : Int)] 108)).drew.cell? ((⟨wr.heap.size, 0, none⟩ : Addr).add j) = some x) := fun j x hx => by
          rw [Addr.add_lit]
          have hh : (wr.alloc (.cells #[.int .i32 (m : Int), .int .i32 (p : Int)] 108)).drew.heap[wr.heap.size]? = _ := World.alloc_heap_new wr (.cells #[.int .i32 (m : Int), .int .i32 (p : Int)] 108)
          show (match (wr.alloc (.cells #[.int .i32 (m : Int), .int .i32 (p : Int)] 108)).drew.heap[wr.heap.size]? with | some (Obj.cells c elem frozen) => c[0 + j]? | x => none) = _
          rw [hh]
          simpa using hx
        have hl63 : P.length + 1 ≤ maxLen := by unfold maxLen; omega
        have hl48 : (P.length + 1) * 8 ≤ 140737488355328 := by omega
        have hpc : p = 0 ∨ 0 < p := by omega
        have HPk : Hid (0 < p → ∃ k : Nat, wr.cell? ⟨gP, p * 2, none⟩ = some (.int .i32 (k : Int)) ∧ k ≠ m ∧ k ≤ 1073741824) := fun h0 => by
          obtain ⟨⟨k, q⟩, hkq⟩ : ∃ x, P[p]? = some x := ⟨_, List.getElem?_eq_getElem hplt⟩
          refine ⟨k, row_cell rP (twp_at hkq).1, fun e => hno ⟨q, h0, by rw [hkq, e]⟩, ?_⟩
          have h2 := (hp.num p k q h0 hkq).1
          have h3 := HEn.out.ce.fit.num
          omega
        have HPn : Hid (P.length ≤ 2147483647) := hPb
        clear hz hp hP hseen rF rP hsn hlf eP eF hi hgm hgtX hlsX hfl hlenX hsumX hmX hpi hno hi0 hz0 hz1 hz2
        generalize hPl : P.length = Pn at *
        have HPl : Hid (P.length = Pn) := hPl
        clear hPl
        generalize htw : twp P = tw at *
        clear htw
        rcases hpc with hpc | hpc
        · have hp0 : ¬ 0 < p := by omega
          clear hpc
          go_upto_region 7 with fail
          go_cut [] from 43 to 60 (fun wx => ∃ u2, Oz w0.heap.size wx b { s with P := u2 } n Y.length (inLs n K) (lefts Y []) F (P ++ [(m, p)]) [] [] ∧ Mo w (s.own b) wx (({ s with P := u2 } : Sy).own b))
          case first =>
            go_region_law (refine step_append_apk rfl (.tmp 47) (.tmp 57) 86 rfl w0.heap.size 108 i0 (.agg #[.int .i32 0, .int .i32 0]) 2 8 Tryd.underlying86 HInf.out.1 HInf.out.2.1 HInf.out.2.2.1 HInf.out.2.2.2 rfl (by decide) (.slice (some ⟨gP, 0, none⟩) Pn cP) Pn tw (by simp [Act.eval, Act.put]) HRow.out.1 ⟨wr.heap.size, 0, none⟩ 1 1 [.int .i32 (m : Int), .int .i32 (p : Int)] (by simp [Act.eval, Act.put]) rfl HNew.out (by simp [Value.oneCell']) hl63 hl48 HRow.out.2 ?_; intro v8 w8 own8 ap8; have HF8 : Hid (_ ∧ _) := (HApp.out v8 w8 own8 ap8).2.2.2; obtain ⟨⟨a8, c8, hv8⟩, q1, q2, -⟩ := HApp.out v8 w8 own8 ap8; subst hv8; clear own8 ap8)
            all_goals
              go_wp2_with fail
              go_meet
              exact ⟨_, HF8.out.1, HF8.out.2⟩
          case rest =>
          obtain ⟨u2, hz8, hm8⟩ := hcut
          clear HApp HRow HNew z4 b3 b4 b4a kF zF HFz
          generalize wc = w8 at *
          obtain ⟨z9, m9⟩ := hz8.setF HEF.out hin Pn
          have b3 : w8.cell? ⟨b, 3, none⟩ = some s.F := hz8.c3
          have rF : w8.ownsRow w0.heap.size 21 1 s.F n (i32s (nats F)) := hz8.f
          rw [HEF.out] at b3 rF
          have kF := row_cell rF (j := i) (x := .int .i32 (p : Int)) (by unfold i32s nats; rw [List.getElem?_map, List.getElem?_map, HY.out.2.2.2.2.2.2.1]; rfl)
          have zF := row_fz rF i
          obtain ⟨a4, c4, e4⟩ := row_form' hz8.p
          have e4 : u2 = .slice a4 (Pn + 1) c4 := by rw [← HPl.out]; simpa using e4
          have b4 : w8.cell? ⟨b, 4, none⟩ = some u2 := hz8.c4
          rw [e4] at b4
          have HZ9 : Hid (Oz w0.heap.size (w8.setCell ⟨gF, i, none⟩ (.int .i32 (Pn : Int))) b { s with P := u2 } n Y.length (inLs n K) (lefts Y []) (F.set i Pn) (P ++ [(m, p)]) [] [] ∧ Mo w (s.own b) (w8.setCell ⟨gF, i, none⟩ (.int .i32 (Pn : Int))) (({ s with P := u2 } : Sy).own b)) := ⟨z9, hm8.trans m9⟩
          have hwp : IntKind.i32.wrap (Pn : Int) = (Pn : Int) := by rw [wrap_i32']; omega
          have hwp2 : IntKind.i64.wrap (Pn : Int) = (Pn : Int) := by rw [IntKind.wrap_i64]; omega
          have HE4 : Hid (u2 = .slice a4 (Pn + 1) c4) := e4
          clear hz8 hm8 z9 m9 rF e4
          go_upto_region 8 with fail
          go_cut [] from 61 to 73 (fun wx => Oz w0.heap.size wx b { s with P := u2 } n Y.length (inLs n K) (lefts Y []) (F.set i Pn) (P ++ [(m, p)]) [] [] ∧ Mo w (s.own b) wx (({ s with P := u2 } : Sy).own b))
          case first =>
            go_region_law (fail)
            all_goals
              have HQ : Hid (_ ∧ _) := ⟨HZ9.out.1.below (Below.refl _ _).drew, HZ9.out.2.trans (Mo.below (Below.refl _ _).drew)⟩
              go_wp2_with fail
              go_meet
              exact ⟨HQ.out.1, HQ.out.2⟩
          case rest =>
          obtain ⟨hzA, hmA⟩ := hcut
          clear HZ9 b3 b4 kF zF
          generalize wc = w9 at *
          obtain ⟨gE, cE, eE0, e1, e2, e3⟩ := row_some hzA.e (by have := HY.out.1; omega)
          have eE : s.E = .slice (some ⟨gE, 0, none⟩) Y.length cE := eE0
          clear eE0
          have b2 : w9.cell? ⟨b, 2, none⟩ = some s.E := hzA.c2
          have rE : w9.ownsRow w0.heap.size 21 1 s.E Y.length (i32s (lefts Y [])) := hzA.e
          rw [eE] at b2 rE
          have kE := row_cell rE (j := m) (x := .int .i32 (cnt [] (Y.getD m []) : Int)) (by unfold i32s; rw [List.getElem?_map, lefts_at HY.out.1]; rfl)
          have zE := row_fz rE m
          obtain ⟨zB, mB⟩ := hzA.setE eE HY.out.1 ((cnt [] (Y.getD m []) : Int) + 1)
          have hcb : cnt [] (Y.getD m []) ≤ 1073741824 := Nat.le_trans (cnt_le _ _) (by have := HY.out.2.2.2.2.2.1; omega)
          have hmY := HY.out.1
          have HFin : Hid (En8 w0 w (w9.setCell ⟨gE, m, none⟩ (.int .i32 ((cnt [] (Y.getD m []) : Int) + 1))) b s u2 n K (X.set m (flt K (c.take (j + 1))))) := by
            refine ⟨?_, hmA.trans mB⟩
            rw [← HUp.out]
            have hpl := HZ.out.2.1.add hn HY.out.1 HY.out.2.2.1 HY.out.2.1 HY.out.2.2.2.1 HI.out HY.out.2.2.2.2.2.2.1
            rw [HPl.out] at hpl
            refine ⟨Mo.bel HB0.out.1 HB0.out.2 (hmA.trans mB), HEn.out.ce.fit.set (by simpa using HY.out.2.2.2.2.2.1) (fun x hx => ?_), F.set i Pn, P ++ [(m, p)], ?_, hpl, ?_⟩
            · rcases List.mem_append.1 hx with a | a
              · exact HEn.out.ce.fit.lit _ (getD_in HY.out.1) x a
              · rw [show x = l by simpa using a]; exact ⟨HY.out.2.2.2.1, HY.out.2.2.2.2.1⟩
            · rw [List.length_set, lefts_set, cnt_more, if_neg HY.out.2.2.1]
              have e5 : (((cnt [] (Y.getD m []) + 1 : Nat)) : Int) = (cnt [] (Y.getD m []) : Int) + 1 := by omega
              rw [e5]
              exact zB
            · have h5 := lsum_set (c := Y.getD m [] ++ [l]) HY.out.1
              rw [List.length_append, List.length_singleton] at h5
              have h6 := HZ.out.2.2
              rw [List.length_append, List.length_singleton, HPl.out]
              omega
          clear hzA hmA zB mB rE eE HZ HUp HEn HY
          generalize cnt [] (Y.getD m []) = cm at *
          have hwc : IntKind.i32.wrap ((cm : Int) + 1) = (cm : Int) + 1 := by rw [wrap_i32']; omega
          generalize Y.length = YN at *
          go_wp2
          go_roundg (gk - 1)
          case measure => have := HJ.out; have := HLT.out; omega
          case rel => exact ⟨j + 1, u2, by have := HJ.out; have := HLT.out; omega, by go_num, HFin.out⟩
        · obtain ⟨k, kP, hkm, hkb⟩ := HPk.out hpc
          have hkm2 : ((k : Int) == (m : Int)) = false := by simp; omega
          go_upto_region 7 with fail
          go_cut [] from 43 to 60 (fun wx => ∃ u2, Oz w0.heap.size wx b { s with P := u2 } n Y.length (inLs n K) (lefts Y []) F (P ++ [(m, p)]) [] [] ∧ Mo w (s.own b) wx (({ s with P := u2 } : Sy).own b))
          case first =>
            go_region_law (refine step_append_apk rfl (.tmp 47) (.tmp 57) 86 rfl w0.heap.size 108 i0 (.agg #[.int .i32 0, .int .i32 0]) 2 8 Tryd.underlying86 HInf.out.1 HInf.out.2.1 HInf.out.2.2.1 HInf.out.2.2.2 rfl (by decide) (.slice (some ⟨gP, 0, none⟩) Pn cP) Pn tw (by simp [Act.eval, Act.put]) HRow.out.1 ⟨wr.heap.size, 0, none⟩ 1 1 [.int .i32 (m : Int), .int .i32 (p : Int)] (by simp [Act.eval, Act.put]) rfl HNew.out (by simp [Value.oneCell']) hl63 hl48 HRow.out.2 ?_; intro v8 w8 own8 ap8; have HF8 : Hid (_ ∧ _) := (HApp.out v8 w8 own8 ap8).2.2.2; obtain ⟨⟨a8, c8, hv8⟩, q1, q2, -⟩ := HApp.out v8 w8 own8 ap8; subst hv8; clear own8 ap8)
            all_goals
              go_wp2_with fail
              go_meet
              exact ⟨_, HF8.out.1, HF8.out.2⟩
          case rest =>
          obtain ⟨u2, hz8, hm8⟩ := hcut
          clear HApp HRow HNew z4 b3 b4 b4a kF zF HFz
          generalize wc = w8 at *
          obtain ⟨z9, m9⟩ := hz8.setF HEF.out hin Pn
          have b3 : w8.cell? ⟨b, 3, none⟩ = some s.F := hz8.c3
          have rF : w8.ownsRow w0.heap.size 21 1 s.F n (i32s (nats F)) := hz8.f
          rw [HEF.out] at b3 rF
          have kF := row_cell rF (j := i) (x := .int .i32 (p : Int)) (by unfold i32s nats; rw [List.getElem?_map, List.getElem?_map, HY.out.2.2.2.2.2.2.1]; rfl)
          have zF := row_fz rF i
          obtain ⟨a4, c4, e4⟩ := row_form' hz8.p
          have e4 : u2 = .slice a4 (Pn + 1) c4 := by rw [← HPl.out]; simpa using e4
          have b4 : w8.cell? ⟨b, 4, none⟩ = some u2 := hz8.c4
          rw [e4] at b4
          have HZ9 : Hid (Oz w0.heap.size (w8.setCell ⟨gF, i, none⟩ (.int .i32 (Pn : Int))) b { s with P := u2 } n Y.length (inLs n K) (lefts Y []) (F.set i Pn) (P ++ [(m, p)]) [] [] ∧ Mo w (s.own b) (w8.setCell ⟨gF, i, none⟩ (.int .i32 (Pn : Int))) (({ s with P := u2 } : Sy).own b)) := ⟨z9, hm8.trans m9⟩
          have hwp : IntKind.i32.wrap (Pn : Int) = (Pn : Int) := by rw [wrap_i32']; omega
          have hwp2 : IntKind.i64.wrap (Pn : Int) = (Pn : Int) := by rw [IntKind.wrap_i64]; omega
          have HE4 : Hid (u2 = .slice a4 (Pn + 1) c4) := e4
          clear hz8 hm8 z9 m9 rF e4
          go_upto_region 8 with fail
          go_cut [] from 61 to 73 (fun wx => Oz w0.heap.size wx b { s with P := u2 } n Y.length (inLs n K) (lefts Y []) (F.set i Pn) (P ++ [(m, p)]) [] [] ∧ Mo w (s.own b) wx (({ s with P := u2 } : Sy).own b))
          case first =>
            go_region_law (fail)
            all_goals
              have HQ : Hid (_ ∧ _) := ⟨HZ9.out.1.below (Below.refl _ _).drew, HZ9.out.2.trans (Mo.below (Below.refl _ _).drew)⟩
              go_wp2_with fail
              go_meet
              exact ⟨HQ.out.1, HQ.out.2⟩
          case rest =>
          obtain ⟨hzA, hmA⟩ := hcut
          clear HZ9 b3 b4 kF zF
          generalize wc = w9 at *
          obtain ⟨gE, cE, eE0, e1, e2, e3⟩ := row_some hzA.e (by have := HY.out.1; omega)
          have eE : s.E = .slice (some ⟨gE, 0, none⟩) Y.length cE := eE0
          clear eE0
          have b2 : w9.cell? ⟨b, 2, none⟩ = some s.E := hzA.c2
          have rE : w9.ownsRow w0.heap.size 21 1 s.E Y.length (i32s (lefts Y [])) := hzA.e
          rw [eE] at b2 rE
          have kE := row_cell rE (j := m) (x := .int .i32 (cnt [] (Y.getD m []) : Int)) (by unfold i32s; rw [List.getElem?_map, lefts_at HY.out.1]; rfl)
          have zE := row_fz rE m
          obtain ⟨zB, mB⟩ := hzA.setE eE HY.out.1 ((cnt [] (Y.getD m []) : Int) + 1)
          have hcb : cnt [] (Y.getD m []) ≤ 1073741824 := Nat.le_trans (cnt_le _ _) (by have := HY.out.2.2.2.2.2.1; omega)
          have hmY := HY.out.1
          have HFin : Hid (En8 w0 w (w9.setCell ⟨gE, m, none⟩ (.int .i32 ((cnt [] (Y.getD m []) : Int) + 1))) b s u2 n K (X.set m (flt K (c.take (j + 1))))) := by
            refine ⟨?_, hmA.trans mB⟩
            rw [← HUp.out]
            have hpl := HZ.out.2.1.add hn HY.out.1 HY.out.2.2.1 HY.out.2.1 HY.out.2.2.2.1 HI.out HY.out.2.2.2.2.2.2.1
            rw [HPl.out] at hpl
            refine ⟨Mo.bel HB0.out.1 HB0.out.2 (hmA.trans mB), HEn.out.ce.fit.set (by simpa using HY.out.2.2.2.2.2.1) (fun x hx => ?_), F.set i Pn, P ++ [(m, p)], ?_, hpl, ?_⟩
            · rcases List.mem_append.1 hx with a | a
              · exact HEn.out.ce.fit.lit _ (getD_in HY.out.1) x a
              · rw [show x = l by simpa using a]; exact ⟨HY.out.2.2.2.1, HY.out.2.2.2.2.1⟩
            · rw [List.length_set, lefts_set, cnt_more, if_neg HY.out.2.2.1]
              have e5 : (((cnt [] (Y.getD m []) + 1 : Nat)) : Int) = (cnt [] (Y.getD m []) : Int) + 1 := by omega
              rw [e5]
              exact zB
            · have h5 := lsum_set (c := Y.getD m [] ++ [l]) HY.out.1
              rw [List.length_append, List.length_singleton] at h5
              have h6 := HZ.out.2.2
              rw [List.length_append, List.length_singleton, HPl.out]
              omega
          clear hzA hmA zB mB rE eE HZ HUp HEn HY
          generalize cnt [] (Y.getD m []) = cm at *
          have hwc : IntKind.i32.wrap ((cm : Int) + 1) = (cm : Int) + 1 := by rw [wrap_i32']; omega
          generalize Y.length = YN at *
          go_wp2
          go_roundg (gk - 1)
          case measure => have := HJ.out; have := HLT.out; omega
          case rel => exact ⟨j + 1, u2, by have := HJ.out; have := HLT.out; omega, by go_num, HFin.out⟩
    · have hje : j = c.length := by have := HJ.out; omega
      have HEn : Hid (En8 w0 w wr b s u n K (X.set m (flt K c))) := by
        have := HEn0.out
        rw [hje, List.take_length] at this
        exact this
      go_wp2
      go_end0
      exact ⟨rfl, u, HEn.out⟩
end Go.Proofs.YtkinilhapgagcaaDoor
