/-
  unit: enter.
  KEEP: set on app at below new trans refl start ap kept rd rds mono lt add none own nil put len pos setF setV putL putR other neV same_any
-/
import Derived.Test.YtkinilhapgagcaaDoorUnQ
set_option linter.unusedSimpArgs false
set_option linter.unusedVariables false
namespace Go.Proofs.YtkinilhapgagcaaDoor
open Go Go.RowKit

theorem lsum_set {X : List (List Int)} {m : Nat} {c : List Int} (hm : m < X.length) : lsum (X.set m c) + (X.getD m []).length = lsum X + c.length := by
  unfold lsum
  induction X generalizing m with
  | nil => simp at hm
  | cons y r ih =>
    cases m with
    | zero => simp; omega
    | succ m =>
      have := ih (m := m) (by simpa using hm)
      simp at this ⊢
      omega
theorem lefts_set {X : List (List Int)} {m : Nat} {c : List Int} : lefts (X.set m c) [] = (lefts X []).set m (cnt [] c : Int) := by unfold lefts; rw [List.map_set]
theorem lefts_at {X : List (List Int)} {m : Nat} (hm : m < X.length) : (lefts X [])[m]? = some (cnt [] (X.getD m []) : Int) := by
  unfold lefts
  rw [List.getElem?_map, List.getElem?_eq_getElem hm, List.getD_eq_getElem?_getD, List.getElem?_eq_getElem hm]; rfl
theorem Fit.set {X : List (List Int)} {n m : Nat} {c : List Int} (h : Fit X n) (hl : c.length ≤ 1073741824) (hc : ∀ l ∈ c, fmd l = true ∧ idx l < n) : Fit (X.set m c) n := by
  refine ⟨h.hn, h.ev, by rw [List.length_set]; exact h.num, fun d hd => ?_, fun d hd l hld => ?_⟩
  · rcases List.mem_or_eq_of_mem_set hd with a | a
    · exact h.len d a
    · rw [a]; exact hl
  · rcases List.mem_or_eq_of_mem_set hd with a | a
    · exact h.lit d a l hld
    · rw [a] at hld; exact hc l hld
/-- the state inside of enter: so many literals of the clause number m are noted -/
structure En6 (w0 w W : World) (b : Nat) (s : Sz) (u : Value) (n : Nat) (X : List (List Int)) (Q : Nat → Bool) : Prop where
  ce : Ce w0 W b { s with P := u } n X Q
  mo : Mo w (s.own b) W (({ s with P := u } : Sz).own b)
theorem En6.below {w0 w W W' : World} {b : Nat} {s : Sz} {u : Value} {n : Nat} {X : List (List Int)} {Q : Nat → Bool} (h : En6 w0 w W b s u n X Q) (hb : Below W.heap.size W W') : En6 w0 w W' b s u n X Q := ⟨h.ce.below hb, h.mo.trans (Mo.below hb)⟩
/-- a literal that was noted already -/
theorem Ce.same {w0 W : World} {b : Nat} {s : Sz} {n m : Nat} {X : List (List Int)} {Q : Nat → Bool} {l : Int} (h : Ce w0 W b s n X Q) (hm : m < X.length) (hl : l ∈ X.getD m []) (hlen : (X.getD m []).length + 1 ≤ 1073741824) (hf : fmd l = true ∧ idx l < n) : Ce w0 W b s n (X.set m (X.getD m [] ++ [l])) Q := by
  obtain ⟨F, P, hz, hp, hP⟩ := h.z
  refine ⟨h.bel, h.fit.set (by simpa using hlen) (fun x hx => ?_), F, P, ?_, hp.same hm hl, ?_⟩
  · rcases List.mem_append.1 hx with a | a
    · exact h.fit.lit _ (getD_in hm) x a
    · rw [show x = l by simpa using a]; exact hf
  · have e : lefts (X.set m (X.getD m [] ++ [l])) [] = lefts X [] := by
      rw [lefts_set, cnt_more, if_pos hl, Nat.add_zero]
      apply List.ext_getElem?
      intro i
      by_cases e : m = i
      · subst e
        rw [List.getElem?_set_self (by simpa [lefts] using hm), lefts_at hm]
      · rw [List.getElem?_set_ne e]
    rw [e, List.length_set]
    exact hz
  · have := lsum_set (c := X.getD m [] ++ [l]) hm
    rw [List.length_append, List.length_singleton] at this
    omega
theorem upto {X : List (List Int)} {m j : Nat} {c : List Int} (hj : j < c.length) (hm : m < X.length) : (X.set m (c.take j)).set m ((X.set m (c.take j)).getD m [] ++ [c.getD j 0]) = X.set m (c.take (j + 1)) := by
  rw [getD_set_self hm, List.set_set, ← take_succ_getD c 0 j hj]

theorem Tryd.infoPlace : (Tryd.prog.info? 99).map (fun i => (i.zero, i.size, i.bytes)) = some (some (.agg #[.int .i32 0, .int .i32 0]), 2, 8) := by kernel_rfl
theorem twp_snoc (P : List (Nat × Nat)) (m p : Nat) : twp (P ++ [(m, p)]) = twp P ++ [.int .i32 (m : Int), .int .i32 (p : Int)] := by simp [twp]

set_option maxRecDepth 100000 in
set_option maxHeartbeats 4000000 in
theorem uEnter_any (w0 : World) (b : Nat) (s : Sz) (n : Nat) (X : List (List Int)) (Q : Nat → Bool) (m : Nat) (v : Value) (c : List Int) (w : World) (h : Ce w0 w b s n X Q) (hr : Rd w0 v c) (hm : m < X.length) (h0 : X.getD m [] = []) (hgt : ∀ k, m < k → X.getD k [] = []) (hc : ∀ l ∈ c, fmd l = true ∧ idx l < n) (hcl : c.length ≤ 1073741824) (hsum : lsum X + c.length ≤ 2147483647) (hq : Q m = false) :
    Calls Tryd.prog 75 #[.pointer (some ⟨b, 0, none⟩), .int .i32 (m : Int), v] w fun e w' => e = .returned (.tuple #[]) ∧ ∃ u Q', En6 w0 w w' b s u n (X.set m c) Q' ∧ ∀ k, Q' k = true ↔ Q k = true ∨ (k = m ∧ cnt [] c ≤ 1) := by
  have HS0 : Hid (En6 w0 w w b s s.P n X Q) := ⟨h, Mo.refl _ _⟩
  have HB0 : Hid (Below w0.heap.size w0 w ∧ ∀ k, s.own b k → w0.heap.size ≤ k) := ⟨h.bel, fun k hk => by obtain ⟨F, P, hz, _⟩ := h.z; exact (hz.lt k hk).1⟩
  have hX0 : X.set m (c.take 0) = X := by
    apply List.ext_getElem?
    intro i
    by_cases e : m = i
    · subst e
      rw [List.getElem?_set_self hm, List.getElem?_eq_getElem hm]
      rw [List.getD_eq_getElem?_getD, List.getElem?_eq_getElem hm] at h0
      simpa using h0.symm
    · rw [List.getElem?_set_ne e]
  have HX0 : Hid (X.set m (c.take 0) = X) := hX0
  obtain ⟨a, cv, rfl, l1, l2, hcell⟩ := hr.form
  have HC : Hid (∀ (W : World) (j : Nat), Below w0.heap.size w0 W → j < c.length → ∃ bb off, a = some ⟨bb, off, none⟩ ∧ W.cell? ⟨bb, off + j, none⟩ = some (.int .i64 (c.getD j 0))) := fun W j hW hj => by
    obtain ⟨bb, off, e, hc⟩ := hcell j hj
    exact ⟨bb, off, e, (hW.cell (p := ⟨bb, off + j, none⟩) (World.block_lt_of_cell? w0 _ hc)).trans hc⟩
  have HX : Hid (m < X.length ∧ (∀ k, m < k → X.getD k [] = []) ∧ (∀ l ∈ c, fmd l = true ∧ idx l < n) ∧ lsum X + c.length ≤ 2147483647 ∧ X.getD m [] = [] ∧ Fit X n) := ⟨hm, hgt, hc, hsum, h0, h.fit⟩
  have hmb : m ≤ 1073741824 := by have := h.fit.num; omega
  have hn := h.fit.hn
  clear h hr hcell hm h0 hgt hc hsum hX0
  go_enter Tryd.func75, Tryd.ntmps75
  go_wp2
  go_loopg [12] c.length (fun g j' wr => ∃ (j : Nat) (u : Value), j + g = c.length ∧ j' = .int .i64 j ∧ En6 w0 w wr b s u n (X.set m (c.take j)) Q)
  case atStart => exact ⟨0, s.P, by omega, rfl, by rw [HX0.out]; exact HS0.out⟩
  case round =>
    obtain ⟨j, u, hj, rfl, hen⟩ := hrel
    have HJ : Hid (j + gk = c.length) := hj
    have HEn : Hid (En6 w0 w wr b s u n (X.set m (c.take j)) Q) := hen
    clear hj hen
    by_cases hlt : j < c.length
    · obtain ⟨bb, off, rfl, kc⟩ := HC.out wr j HEn.out.ce.bel hlt
      have hlf := HX.out.2.2.1 _ (getD_mem' (d := 0) hlt)
      have HUp : Hid ((X.set m (c.take j)).set m ((X.set m (c.take j)).getD m [] ++ [c.getD j 0]) = X.set m (c.take (j + 1))) := upto hlt HX.out.1
      have hmX : m < (X.set m (c.take j)).length := by rw [List.length_set]; exact HX.out.1
      have hgtX : ∀ k, m < k → (X.set m (c.take j)).getD k [] = [] := fun k hk => by rw [getD_set_ne (by omega)]; exact HX.out.2.1 k hk
      have hgm : (X.set m (c.take j)).getD m [] = c.take j := getD_set_self HX.out.1
      have hlsX : lsum (X.set m (c.take j)) = lsum X + j := by
        have := lsum_set (c := c.take j) HX.out.1
        rw [HX.out.2.2.2.2.1, List.length_take, Nat.min_eq_left (by omega)] at this
        simpa using this
      have hlenX : ((X.set m (c.take j)).getD m []).length + 1 ≤ 1073741824 := by rw [hgm, List.length_take]; omega
      have hsumX : lsum (X.set m (c.take j)) + 1 ≤ 2147483647 := by have := HX.out.2.2.2.1; omega
      generalize X.set m (c.take j) = Y at *
      generalize c.getD j 0 = l at *
      have HLT : Hid (j < c.length) := hlt
      obtain ⟨i, hi⟩ : ∃ i : Nat, idx l = i := ⟨(idx l).toNat, by have := idx_range hlf.1; omega⟩
      have hin : i < n := by omega
      obtain ⟨F, P, hz, hp, hP⟩ := HEn.out.ce.z
      obtain ⟨p, hpi⟩ : ∃ p, F[i]? = some p := ⟨_, List.getElem?_eq_getElem (by rw [hp.len]; exact hin)⟩
      have hseen := hp.seen hmX hgtX hlf.1 hi hpi
      have hplt := (hp.ch i p hpi).1
      obtain ⟨gF, cF, eF0, f1, f2, f3⟩ := row_some hz.f (by omega)
      have eF : s.F = .slice (some ⟨gF, 0, none⟩) n cF := eF0
      clear eF0
      have b3 : wr.cell? ⟨b, 3, none⟩ = some s.F := hz.c3
      have rF : wr.ownsRow w0.heap.size 21 1 s.F n (i32s (F.map fun (x : Nat) => (x : Int))) := hz.f
      rw [eF] at b3 rF
      have kF := row_cell rF (j := i) (x := .int .i32 (p : Int)) (by unfold i32s; rw [List.getElem?_map, List.getElem?_map, hpi]; rfl)
      have zF := row_fz rF i
      obtain ⟨gP, cP, eP0, p1, p2, p3⟩ := row_some hz.p (by have := hp.pos; omega)
      have eP : u = .slice (some ⟨gP, 0, none⟩) P.length cP := eP0
      clear eP0
      have b4 : wr.cell? ⟨b, 4, none⟩ = some u := hz.c4
      have rP : wr.ownsRow w0.heap.size 99 2 u P.length (twp P) := hz.p
      rw [eP] at b4 rP
      have hPb : P.length ≤ 2147483647 := by omega
      have HI : Hid (idx l = i) := hi
      by_cases hsn : l ∈ Y.getD m []
      · obtain ⟨q, hp0, hPp⟩ := hseen.1 hsn
        have kP := row_cell rP (twp_at hPp).1
        have HF : Hid (En6 w0 w wr b s u n (X.set m (c.take (j + 1))) Q) := ⟨by rw [← HUp.out]; exact HEn.out.ce.same hmX hsn hlenX hlf, HEn.out.mo⟩
        have hmm : ((m : Int) == (m : Int)) = true := by simp
        clear hz hp hP hseen rF rP hsn hPp hlf eP eF hi hgm hgtX hlsX hlenX hsumX hmX hpi
        generalize P.length = Pn at *
        go_wp2_with fail
        refine (index_any _ _).mono ?_
        rintro e w9 ⟨rfl, hw9⟩
        obtain rfl : wr = w9 := hw9.symm
        rw [HI.out]
        clear hw9
        go_wp2
        go_roundg (gk - 1)
        case measure => have := HJ.out; have := HLT.out; omega
        case rel => exact ⟨j + 1, u, by have := HJ.out; have := HLT.out; omega, by go_num, HF.out⟩
      · have hno : ¬ ∃ q, 0 < p ∧ P[p]? = some (m, q) := fun h2 => hsn (hseen.2 h2)
        have HZ : Hid (Cz w0.heap.size wr b { s with P := u } n Y.length (inLs n []) (lefts Y []) F P Q [] ∧ Pls Y n F P ∧ P.length ≤ lsum Y + 1) := ⟨hz, hp, hP⟩
        have HY : Hid (m < Y.length ∧ (∀ k, m < k → Y.getD k [] = []) ∧ l ∉ Y.getD m [] ∧ fmd l = true ∧ idx l < n ∧ (Y.getD m []).length + 1 ≤ 1073741824 ∧ F[i]? = some p ∧ lsum Y + 1 ≤ 2147483647) := ⟨hmX, hgtX, hsn, hlf.1, hlf.2, hlenX, hpi, hsumX⟩
        have HEF : Hid (s.F = .slice (some ⟨gF, 0, none⟩) n cF) := eF
        have HEP : Hid (u = .slice (some ⟨gP, 0, none⟩) P.length cP) := eP
        obtain ⟨i0, hi0, hz0, hz1, hz2⟩ := info_parts Tryd.infoPlace
        have HInf : Hid (Tryd.prog.info? 99 = some i0 ∧ i0.zero = some (.agg #[.int .i32 0, .int .i32 0]) ∧ i0.size = 2 ∧ i0.bytes = 8) := ⟨hi0, hz0, hz1, hz2⟩
        have HFz : Hid (∀ W, Below wr.heap.size wr W → W.frozen? ⟨b, 4, none⟩ = false) := fun W hW => (hz.below hW).fz 4
        have z4 := hz.fz 4
        have b4a : (wr.alloc (.cells #[.int .i32 (m : Int), .int .i32 (p : Int)] 99)).cell? ⟨b, 4, none⟩ = some (.slice (some ⟨gP, 0, none⟩) P.length cP) := (World.cell?_alloc_lt _ _ _ (World.block_lt_of_cell? wr _ b4)).trans b4
        -- what the append gives
        have HApp : Hid (∀ v8 w8, w8.ownsRow w0.heap.size 99 2 v8 (P.length + 1) (twp P ++ [.int .i32 (m : Int), .int .i32 (p : Int)]) → Ap (wr.alloc (.cells #[.int .i32 (m : Int), .int .i32 (p : Int)] 99)).drew (.slice (some ⟨gP, 0, none⟩) P.length cP) w8 v8 →
            (∃ a8 c8, v8 = .slice a8 (P.length + 1) c8) ∧ w8.cell? ⟨b, 4, none⟩ = some (.slice (some ⟨gP, 0, none⟩) P.length cP) ∧ w8.frozen? ⟨b, 4, none⟩ = false ∧
            Cz w0.heap.size (w8.setCell ⟨b, 4, none⟩ v8) b { s with P := v8 } n Y.length (inLs n []) (lefts Y []) F (P ++ [(m, p)]) Q [] ∧ Mo w (s.own b) (w8.setCell ⟨b, 4, none⟩ v8) (({ s with P := v8 } : Sz).own b)) := fun v8 w8 own8 ap8 => by
          have bb : Below wr.heap.size wr (wr.alloc (.cells #[.int .i32 (m : Int), .int .i32 (p : Int)] 99)).drew := (below_box _ _).drew
          have hzA := hz.below bb
          have own9 : w8.ownsRow w0.heap.size 99 2 v8 (P ++ [(m, p)]).length (twp (P ++ [(m, p)])) := by
            rw [twp_snoc, List.length_append]; exact own8
          have ap9 : Ap (wr.alloc (.cells #[.int .i32 (m : Int), .int .i32 (p : Int)] 99)).drew u w8 v8 := by rw [eP]; exact ap8
          obtain ⟨z9, m9⟩ := hzA.putP ap9.grown ap9.new own9
          have ht : ∀ x, u.ownBlock = some x → Ty _ x 99 := fun x e => row_ty hzA.p e.symm
          have hbx := box_other hzA.box ap9.grown ht (by decide)
          exact ⟨row_form' own8, by simp [World.cell?, hbx]; exact eP, by simp [World.frozen?, hbx], z9, (HEn.out.mo.trans (Mo.below bb)).trans m9⟩
        have HRow : Hid ((wr.alloc (.cells #[.int .i32 (m : Int), .int .i32 (p : Int)] 99)).drew.ownsRow w0.heap.size 99 2 (.slice (some ⟨gP, 0, none⟩) P.length cP) P.length (twp P) ∧ w0.heap.size ≤ (wr.alloc (.cells #[.int .i32 (m : Int), .int .i32 (p : Int)] 99)).drew.heap.size) := by
          have bb : Below wr.heap.size wr (wr.alloc (.cells #[.int .i32 (m : Int), .int .i32 (p : Int)] 99)).drew := (below_box _ _).drew
          have := (hz.below bb).p
          rw [← eP]
          exact ⟨this, Nat.le_trans HEn.out.ce.bel.size bb.size⟩
        have HNew : Hid (∀ j x, [Value.int .i32 (m : Int), Value.int .i32 (p : Int)][j]? = some x → (wr.alloc (.cells #[.int .i32 (m : Int), .int .i32 (p : Int)] 99)).drew.cell? ((⟨wr.heap.size, 0, none⟩ : Addr).add j) = some x) := fun j x hx => by
          rw [Addr.add_lit]
          have hh : (wr.alloc (.cells #[.int .i32 (m : Int), .int .i32 (p : Int)] 99)).drew.heap[wr.heap.size]? = _ := World.alloc_heap_new wr (.cells #[.int .i32 (m : Int), .int .i32 (p : Int)] 99)
          show (match (wr.alloc (.cells #[.int .i32 (m : Int), .int .i32 (p : Int)] 99)).drew.heap[wr.heap.size]? with | some (Obj.cells c elem frozen) => c[0 + j]? | x => none) = _
          rw [hh]
          simpa using hx
        have hl63 : P.length + 1 ≤ maxLen := by unfold maxLen; omega
        have hl48 : (P.length + 1) * 8 ≤ 140737488355328 := by omega
        have hpc : p = 0 ∨ 0 < p := by omega
        have HPk : Hid (0 < p → ∃ k : Nat, wr.cell? ⟨gP, p * 2, none⟩ = some (.int .i32 (k : Int)) ∧ k ≠ m ∧ k ≤ 1073741824) := fun h0 => by
          obtain ⟨⟨k, q⟩, hkq⟩ : ∃ x, P[p]? = some x := ⟨_, List.getElem?_eq_getElem hplt⟩
          refine ⟨k, row_cell rP (twp_at hkq).1, fun e => hno ⟨q, h0, by rw [hkq, e]⟩, ?_⟩
          have h2 := (hp.num p k q h0 hkq).1
          have h3 := HEn.out.ce.fit.num
          omega
        have HPn : Hid (P.length ≤ 2147483647) := hPb
        clear hz hp hP hseen rF rP hsn hlf eP eF hi hgm hgtX hlsX hlenX hsumX hmX hpi hno hi0 hz0 hz1 hz2
        generalize hPl : P.length = Pn at *
        have HPl : Hid (P.length = Pn) := hPl
        clear hPl
        generalize htw : twp P = tw at *
        clear htw
        go_wp2_with fail
        refine (index_any _ _).mono ?_
        rintro e w9 ⟨rfl, hw9⟩
        obtain rfl : wr = w9 := hw9.symm
        rw [HI.out]
        clear hw9
        rcases hpc with hpc | hpc
        · have hp0 : ¬ 0 < p := by omega
          clear hpc
          go_upto_region 6 with fail
          go_cut [] from 39 to 56 (fun wx => ∃ u2, Cz w0.heap.size wx b { s with P := u2 } n Y.length (inLs n []) (lefts Y []) F (P ++ [(m, p)]) Q [] ∧ Mo w (s.own b) wx (({ s with P := u2 } : Sz).own b))
          case first =>
            go_region_law (refine step_append_apk rfl (.tmp 43) (.tmp 53) 76 rfl w0.heap.size 99 i0 (.agg #[.int .i32 0, .int .i32 0]) 2 8 Tryd.underlying76 HInf.out.1 HInf.out.2.1 HInf.out.2.2.1 HInf.out.2.2.2 rfl (by decide) (.slice (some ⟨gP, 0, none⟩) Pn cP) Pn tw (by simp [Act.eval, Act.put]) HRow.out.1 ⟨wr.heap.size, 0, none⟩ 1 1 [.int .i32 (m : Int), .int .i32 (p : Int)] (by simp [Act.eval, Act.put]) rfl HNew.out (by simp [Value.oneCell']) hl63 hl48 HRow.out.2 ?_; intro v8 w8 own8 ap8; have HF8 : Hid (_ ∧ _) := (HApp.out v8 w8 own8 ap8).2.2.2; obtain ⟨⟨a8, c8, hv8⟩, q1, q2, -⟩ := HApp.out v8 w8 own8 ap8; subst hv8; clear own8 ap8)
            all_goals
              go_wp2_with fail
              go_meet
              exact ⟨_, HF8.out.1, HF8.out.2⟩
          case rest =>
          obtain ⟨u2, hz8, hm8⟩ := hcut
          clear HApp HRow HNew z4 b3 b4 b4a kF zF HFz kc
          generalize wc = w8 at *
          obtain ⟨z9, m9⟩ := hz8.setF HEF.out hin Pn
          have b3 : w8.cell? ⟨b, 3, none⟩ = some s.F := hz8.c3
          have rF : w8.ownsRow w0.heap.size 21 1 s.F n (i32s (F.map fun (x : Nat) => (x : Int))) := hz8.f
          rw [HEF.out] at b3 rF
          have kF := row_cell rF (j := i) (x := .int .i32 (p : Int)) (by unfold i32s; rw [List.getElem?_map, List.getElem?_map, HY.out.2.2.2.2.2.2.1]; rfl)
          have zF := row_fz rF i
          obtain ⟨a4, c4, e4⟩ := row_form' hz8.p
          have e4 : u2 = .slice a4 (Pn + 1) c4 := by rw [← HPl.out]; simpa using e4
          have b4 : w8.cell? ⟨b, 4, none⟩ = some u2 := hz8.c4
          rw [e4] at b4
          have HZ9 : Hid (Cz w0.heap.size (w8.setCell ⟨gF, i, none⟩ (.int .i32 (Pn : Int))) b { s with P := u2 } n Y.length (inLs n []) (lefts Y []) (F.set i Pn) (P ++ [(m, p)]) Q [] ∧ Mo w (s.own b) (w8.setCell ⟨gF, i, none⟩ (.int .i32 (Pn : Int))) (({ s with P := u2 } : Sz).own b)) := ⟨z9, hm8.trans m9⟩
          have hwp : IntKind.i32.wrap (Pn : Int) = (Pn : Int) := by rw [wrap_i32']; omega
          have hwp2 : IntKind.i64.wrap (Pn : Int) = (Pn : Int) := by rw [IntKind.wrap_i64]; omega
          have HE4 : Hid (u2 = .slice a4 (Pn + 1) c4) := e4
          clear hz8 hm8 z9 m9 rF e4
          go_upto_region 7 with fail
          go_cut [] from 57 to 69 (fun wx => Cz w0.heap.size wx b { s with P := u2 } n Y.length (inLs n []) (lefts Y []) (F.set i Pn) (P ++ [(m, p)]) Q [] ∧ Mo w (s.own b) wx (({ s with P := u2 } : Sz).own b))
          case first =>
            go_region_law (fail)
            all_goals
              have HQ : Hid (_ ∧ _) := ⟨HZ9.out.1.below (Below.refl _ _).drew, HZ9.out.2.trans (Mo.below (Below.refl _ _).drew)⟩
              go_wp2_with fail
              go_meet
              exact ⟨HQ.out.1, HQ.out.2⟩
          case rest =>
          obtain ⟨hzA, hmA⟩ := hcut
          clear HZ9 b3 b4 kF zF
          generalize wc = w9 at *
          obtain ⟨gE, cE, eE0, e1, e2, e3⟩ := row_some hzA.e (by have := HY.out.1; omega)
          have eE : s.E = .slice (some ⟨gE, 0, none⟩) Y.length cE := eE0
          clear eE0
          have b2 : w9.cell? ⟨b, 2, none⟩ = some s.E := hzA.c2
          have rE : w9.ownsRow w0.heap.size 21 1 s.E Y.length (i32s (lefts Y [])) := hzA.e
          rw [eE] at b2 rE
          have kE := row_cell rE (j := m) (x := .int .i32 (cnt [] (Y.getD m []) : Int)) (by unfold i32s; rw [List.getElem?_map, lefts_at HY.out.1]; rfl)
          have zE := row_fz rE m
          obtain ⟨zB, mB⟩ := hzA.setE eE HY.out.1 ((cnt [] (Y.getD m []) : Int) + 1)
          have hcb : cnt [] (Y.getD m []) ≤ 1073741824 := Nat.le_trans (cnt_le _ _) (by have := HY.out.2.2.2.2.2.1; omega)
          have hmY := HY.out.1
          have HFin : Hid (En6 w0 w (w9.setCell ⟨gE, m, none⟩ (.int .i32 ((cnt [] (Y.getD m []) : Int) + 1))) b s u2 n (X.set m (c.take (j + 1))) Q) := by
            refine ⟨?_, hmA.trans mB⟩
            rw [← HUp.out]
            have hpl := HZ.out.2.1.add hn HY.out.1 HY.out.2.2.1 HY.out.2.1 HY.out.2.2.2.1 HI.out HY.out.2.2.2.2.2.2.1
            rw [HPl.out] at hpl
            refine ⟨Mo.bel HB0.out.1 HB0.out.2 (hmA.trans mB), HEn.out.ce.fit.set (by simpa using HY.out.2.2.2.2.2.1) (fun x hx => ?_), F.set i Pn, P ++ [(m, p)], ?_, hpl, ?_⟩
            · rcases List.mem_append.1 hx with a | a
              · exact HEn.out.ce.fit.lit _ (getD_in HY.out.1) x a
              · rw [show x = l by simpa using a]; exact ⟨HY.out.2.2.2.1, HY.out.2.2.2.2.1⟩
            · rw [List.length_set, lefts_set, cnt_more, if_neg HY.out.2.2.1]
              have e5 : (((cnt [] (Y.getD m []) + 1 : Nat)) : Int) = (cnt [] (Y.getD m []) : Int) + 1 := by omega
              rw [e5]
              exact zB
            · have h5 := lsum_set (c := Y.getD m [] ++ [l]) HY.out.1
              rw [List.length_append, List.length_singleton] at h5
              have h6 := HZ.out.2.2
              rw [List.length_append, List.length_singleton, HPl.out]
              omega
          clear hzA hmA zB mB rE eE HZ HUp HEn HY
          generalize cnt [] (Y.getD m []) = cm at *
          have hwc : IntKind.i32.wrap ((cm : Int) + 1) = (cm : Int) + 1 := by rw [wrap_i32']; omega
          generalize Y.length = YN at *
          go_wp2
          go_roundg (gk - 1)
          case measure => have := HJ.out; have := HLT.out; omega
          case rel => exact ⟨j + 1, u2, by have := HJ.out; have := HLT.out; omega, by go_num, HFin.out⟩
        · obtain ⟨k, kP, hkm, hkb⟩ := HPk.out hpc
          have hkm2 : ((k : Int) == (m : Int)) = false := by simp; omega
          go_upto_region 6 with fail
          go_cut [] from 39 to 56 (fun wx => ∃ u2, Cz w0.heap.size wx b { s with P := u2 } n Y.length (inLs n []) (lefts Y []) F (P ++ [(m, p)]) Q [] ∧ Mo w (s.own b) wx (({ s with P := u2 } : Sz).own b))
          case first =>
            go_region_law (refine step_append_apk rfl (.tmp 43) (.tmp 53) 76 rfl w0.heap.size 99 i0 (.agg #[.int .i32 0, .int .i32 0]) 2 8 Tryd.underlying76 HInf.out.1 HInf.out.2.1 HInf.out.2.2.1 HInf.out.2.2.2 rfl (by decide) (.slice (some ⟨gP, 0, none⟩) Pn cP) Pn tw (by simp [Act.eval, Act.put]) HRow.out.1 ⟨wr.heap.size, 0, none⟩ 1 1 [.int .i32 (m : Int), .int .i32 (p : Int)] (by simp [Act.eval, Act.put]) rfl HNew.out (by simp [Value.oneCell']) hl63 hl48 HRow.out.2 ?_; intro v8 w8 own8 ap8; have HF8 : Hid (_ ∧ _) := (HApp.out v8 w8 own8 ap8).2.2.2; obtain ⟨⟨a8, c8, hv8⟩, q1, q2, -⟩ := HApp.out v8 w8 own8 ap8; subst hv8; clear own8 ap8)
            all_goals
              go_wp2_with fail
              go_meet
              exact ⟨_, HF8.out.1, HF8.out.2⟩
          case rest =>
          obtain ⟨u2, hz8, hm8⟩ := hcut
          clear HApp HRow HNew z4 b3 b4 b4a kF zF HFz kc
          generalize wc = w8 at *
          obtain ⟨z9, m9⟩ := hz8.setF HEF.out hin Pn
          have b3 : w8.cell? ⟨b, 3, none⟩ = some s.F := hz8.c3
          have rF : w8.ownsRow w0.heap.size 21 1 s.F n (i32s (F.map fun (x : Nat) => (x : Int))) := hz8.f
          rw [HEF.out] at b3 rF
          have kF := row_cell rF (j := i) (x := .int .i32 (p : Int)) (by unfold i32s; rw [List.getElem?_map, List.getElem?_map, HY.out.2.2.2.2.2.2.1]; rfl)
          have zF := row_fz rF i
          obtain ⟨a4, c4, e4⟩ := row_form' hz8.p
          have e4 : u2 = .slice a4 (Pn + 1) c4 := by rw [← HPl.out]; simpa using e4
          have b4 : w8.cell? ⟨b, 4, none⟩ = some u2 := hz8.c4
          rw [e4] at b4
          have HZ9 : Hid (Cz w0.heap.size (w8.setCell ⟨gF, i, none⟩ (.int .i32 (Pn : Int))) b { s with P := u2 } n Y.length (inLs n []) (lefts Y []) (F.set i Pn) (P ++ [(m, p)]) Q [] ∧ Mo w (s.own b) (w8.setCell ⟨gF, i, none⟩ (.int .i32 (Pn : Int))) (({ s with P := u2 } : Sz).own b)) := ⟨z9, hm8.trans m9⟩
          have hwp : IntKind.i32.wrap (Pn : Int) = (Pn : Int) := by rw [wrap_i32']; omega
          have hwp2 : IntKind.i64.wrap (Pn : Int) = (Pn : Int) := by rw [IntKind.wrap_i64]; omega
          have HE4 : Hid (u2 = .slice a4 (Pn + 1) c4) := e4
          clear hz8 hm8 z9 m9 rF e4
          go_upto_region 7 with fail
          go_cut [] from 57 to 69 (fun wx => Cz w0.heap.size wx b { s with P := u2 } n Y.length (inLs n []) (lefts Y []) (F.set i Pn) (P ++ [(m, p)]) Q [] ∧ Mo w (s.own b) wx (({ s with P := u2 } : Sz).own b))
          case first =>
            go_region_law (fail)
            all_goals
              have HQ : Hid (_ ∧ _) := ⟨HZ9.out.1.below (Below.refl _ _).drew, HZ9.out.2.trans (Mo.below (Below.refl _ _).drew)⟩
              go_wp2_with fail
              go_meet
              exact ⟨HQ.out.1, HQ.out.2⟩
          case rest =>
          obtain ⟨hzA, hmA⟩ := hcut
          clear HZ9 b3 b4 kF zF
          generalize wc = w9 at *
          obtain ⟨gE, cE, eE0, e1, e2, e3⟩ := row_some hzA.e (by have := HY.out.1; omega)
          have eE : s.E = .slice (some ⟨gE, 0, none⟩) Y.length cE := eE0
          clear eE0
          have b2 : w9.cell? ⟨b, 2, none⟩ = some s.E := hzA.c2
          have rE : w9.ownsRow w0.heap.size 21 1 s.E Y.length (i32s (lefts Y [])) := hzA.e
          rw [eE] at b2 rE
          have kE := row_cell rE (j := m) (x := .int .i32 (cnt [] (Y.getD m []) : Int)) (by unfold i32s; rw [List.getElem?_map, lefts_at HY.out.1]; rfl)
          have zE := row_fz rE m
          obtain ⟨zB, mB⟩ := hzA.setE eE HY.out.1 ((cnt [] (Y.getD m []) : Int) + 1)
          have hcb : cnt [] (Y.getD m []) ≤ 1073741824 := Nat.le_trans (cnt_le _ _) (by have := HY.out.2.2.2.2.2.1; omega)
          have hmY := HY.out.1
          have HFin : Hid (En6 w0 w (w9.setCell ⟨gE, m, none⟩ (.int .i32 ((cnt [] (Y.getD m []) : Int) + 1))) b s u2 n (X.set m (c.take (j + 1))) Q) := by
            refine ⟨?_, hmA.trans mB⟩
            rw [← HUp.out]
            have hpl := HZ.out.2.1.add hn HY.out.1 HY.out.2.2.1 HY.out.2.1 HY.out.2.2.2.1 HI.out HY.out.2.2.2.2.2.2.1
            rw [HPl.out] at hpl
            refine ⟨Mo.bel HB0.out.1 HB0.out.2 (hmA.trans mB), HEn.out.ce.fit.set (by simpa using HY.out.2.2.2.2.2.1) (fun x hx => ?_), F.set i Pn, P ++ [(m, p)], ?_, hpl, ?_⟩
            · rcases List.mem_append.1 hx with a | a
              · exact HEn.out.ce.fit.lit _ (getD_in HY.out.1) x a
              · rw [show x = l by simpa using a]; exact ⟨HY.out.2.2.2.1, HY.out.2.2.2.2.1⟩
            · rw [List.length_set, lefts_set, cnt_more, if_neg HY.out.2.2.1]
              have e5 : (((cnt [] (Y.getD m []) + 1 : Nat)) : Int) = (cnt [] (Y.getD m []) : Int) + 1 := by omega
              rw [e5]
              exact zB
            · have h5 := lsum_set (c := Y.getD m [] ++ [l]) HY.out.1
              rw [List.length_append, List.length_singleton] at h5
              have h6 := HZ.out.2.2
              rw [List.length_append, List.length_singleton, HPl.out]
              omega
          clear hzA hmA zB mB rE eE HZ HUp HEn HY
          generalize cnt [] (Y.getD m []) = cm at *
          have hwc : IntKind.i32.wrap ((cm : Int) + 1) = (cm : Int) + 1 := by rw [wrap_i32']; omega
          generalize Y.length = YN at *
          go_wp2
          go_roundg (gk - 1)
          case measure => have := HJ.out; have := HLT.out; omega
          case rel => exact ⟨j + 1, u2, by have := HJ.out; have := HLT.out; omega, by go_num, HFin.out⟩
    · have hje : j = c.length := by have := HJ.out; omega
      rw [hje, List.take_length] at HEn
      clear hje
      obtain ⟨F, P, hz, hp, hP⟩ := HEn.out.ce.z
      have hmX : m < (X.set m c).length := by rw [List.length_set]; exact HX.out.1
      obtain ⟨gE, cE, eE0, e1, e2, e3⟩ := row_some hz.e (by omega)
      have eE : s.E = .slice (some ⟨gE, 0, none⟩) (X.set m c).length cE := eE0
      clear eE0
      have b2 : wr.cell? ⟨b, 2, none⟩ = some s.E := hz.c2
      have b5 : wr.cell? ⟨b, 5, none⟩ = some s.W := hz.c5
      have rE : wr.ownsRow w0.heap.size 21 1 s.E (X.set m c).length (i32s (lefts (X.set m c) [])) := hz.e
      rw [eE] at b2 rE
      have kE := row_cell rE (j := m) (x := .int .i32 (cnt [] c : Int)) (by unfold i32s; rw [List.getElem?_map, lefts_at hmX, getD_set_self HX.out.1]; rfl)
      have HWq : Hid (Wq w0.heap.size wr s.W s.L (X.set m c).length Q) := hz.w
      have hXn : (X.set m c).length ≤ 1073741824 := HEn.out.ce.fit.num
      have HPw : Hid (∀ W2 Q', Wq w0.heap.size W2 s.W s.L (X.set m c).length Q' → Mo wr (wown s.W s.L) W2 (wown s.W s.L) → En6 w0 w W2 b s u n (X.set m c) Q') := fun W2 Q' hq hm => by
        obtain ⟨z2, m2⟩ := hz.putW hq hm
        exact ⟨⟨Mo.bel HB0.out.1 HB0.out.2 (HEn.out.mo.trans m2), HEn.out.ce.fit, F, P, z2, hp, hP⟩, HEn.out.mo.trans m2⟩
      have HCn : Hid (cnt [] c = cnt [] c) := rfl
      clear hz hp hP rE eE
      by_cases hle : cnt [] c ≤ 1
      · have HLe : Hid (cnt [] c ≤ 1) := hle
        generalize hcm : cnt [] c = cm at *
        have HCm : Hid (cnt [] c = cm) := hcm
        clear hcm
        generalize (X.set m c).length = XN at *
        go_wp2_with fail
        refine (wAdd_any _ _ _ _ Q m wr HWq.out hmX (by omega)).mono ?_
        rintro e w2 ⟨rfl, hw2, hm2⟩
        have HF : Hid (En6 w0 w w2 b s u n (X.set m c) (qadd Q m)) := HPw.out _ _ hw2 hm2
        clear hw2 hm2
        go_wp2
        go_end0
        exact ⟨rfl, u, qadd Q m, HF.out, fun k => by rw [qadd_at]; exact ⟨fun h => h.elim .inl (fun e => .inr ⟨e, by rw [HCm.out]; exact HLe.out⟩), fun h => h.elim .inl (fun e => .inr e.1)⟩⟩
      · have HLe : Hid (¬ cnt [] c ≤ 1) := hle
        generalize hcm : cnt [] c = cm at *
        have HCm : Hid (cnt [] c = cm) := hcm
        clear hcm
        generalize (X.set m c).length = XN at *
        go_wp2
        go_end0
        exact ⟨rfl, u, Q, HEn.out, fun k => ⟨.inl, fun h => h.elim id (fun e => absurd e.2 (by rw [HCm.out]; exact HLe.out))⟩⟩
end Go.Proofs.YtkinilhapgagcaaDoor
