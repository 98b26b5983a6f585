/-
  unit: put.
  KEEP: set on app at below new trans refl start ap kept rd rds mono lt add none own nil put len pos setF setV putL putR other neV same_any
-/
import Derived.Test.YtijhabhbeambeaaDoorUnH
set_option linter.unusedSimpArgs false
set_option linter.unusedVariables false
namespace Go.Proofs.YtijhabhbeambeaaDoor
open Go Go.RowKit

/-- what is left, where the clauses ks are still to be counted -/
def lfm (X : List (List Int)) (L L' : List Int) (ks : List Nat) : List Int := (List.range X.length).map fun (k : Nat) => if k ∈ ks then (cnt L (X.getD k []) : Int) else (cnt L' (X.getD k []) : Int)
theorem wrap_i32' (n : Int) : IntKind.i32.wrap n = (n + 2147483648) % 4294967296 - 2147483648 := by
  simp [IntKind.wrap, IntKind.bits, IntKind.signed]
  split <;> omega
theorem lfm_len (X : List (List Int)) (L L' : List Int) (ks : List Nat) : (lfm X L L' ks).length = X.length := by simp [lfm]
theorem lefts_range (X : List (List Int)) (L : List Int) : lefts X L = (List.range X.length).map fun (k : Nat) => (cnt L (X.getD k []) : Int) := by
  unfold lefts
  apply List.ext_getElem?
  intro i
  by_cases h : i < X.length
  · rw [List.getElem?_map, List.getElem?_map, List.getElem?_range h, List.getElem?_eq_getElem h]
    simp [List.getD_eq_getElem?_getD, List.getElem?_eq_getElem h]
  · rw [List.getElem?_eq_none (by simpa using h), List.getElem?_eq_none (by simpa using h)]
theorem lfm_start {X : List (List Int)} {L L' : List Int} {ks : List Nat} (h : ∀ k, k < X.length → k ∉ ks → cnt L' (X.getD k []) = cnt L (X.getD k [])) : lfm X L L' ks = lefts X L := by
  rw [lefts_range]
  unfold lfm
  apply List.map_congr_left
  intro k hk
  have hk := List.mem_range.1 hk
  show (if _ then _ else _) = _
  split
  · rfl
  · rename_i hn; rw [h k hk hn]
theorem lfm_end (X : List (List Int)) (L L' : List Int) : lfm X L L' [] = lefts X L' := by
  rw [lefts_range]
  unfold lfm
  apply List.map_congr_left
  intro k hk
  simp
theorem lfm_at {X : List (List Int)} {L L' : List Int} {ks : List Nat} {k : Nat} (hk : k < X.length) (h : k ∈ ks) : (lfm X L L' ks)[k]? = some (cnt L (X.getD k []) : Int) := by
  unfold lfm
  rw [List.getElem?_map, List.getElem?_range hk]
  show some (if k ∈ ks then _ else _) = _
  rw [if_pos h]
theorem lfm_step {X : List (List Int)} {L L' : List Int} {ks : List Nat} {k : Nat} (hk : k < X.length) (h : k ∉ ks) : (lfm X L L' (k :: ks)).set k (cnt L' (X.getD k []) : Int) = lfm X L L' ks := by
  apply List.ext_getElem?
  intro i
  by_cases hi : i < X.length
  · by_cases e : k = i
    · subst e
      rw [List.getElem?_set_self (by rw [lfm_len]; exact hk)]
      unfold lfm
      rw [List.getElem?_map, List.getElem?_range hi]
      show _ = some (if k ∈ ks then _ else _)
      rw [if_neg h]
    · rw [List.getElem?_set_ne e]
      unfold lfm
      rw [List.getElem?_map, List.getElem?_map, List.getElem?_range hi]
      show some (if i ∈ k :: ks then _ else _) = some (if i ∈ ks then _ else _)
      have : (i ∈ k :: ks) = (i ∈ ks) := by rw [List.mem_cons]; simp [Ne.symm e]
      simp only [this]
  · rw [List.getElem?_eq_none (by rw [List.length_set, lfm_len]; omega), List.getElem?_eq_none (by rw [lfm_len]; omega)]
theorem qadd_at {Q : Nat → Bool} {n k : Nat} : qadd Q n k = true ↔ Q k = true ∨ k = n := by simp [qadd]
/-- the state inside of put -/
structure Pt (w0 w W : World) (b : Nat) (s : Sz) (n : Nat) (X : List (List Int)) (L : List Int) (l : Int) (Q : Nat → Bool) (cs : List (Int × Nat)) (F : List Nat) (P : List (Nat × Nat)) (ks : List Nat) : Prop where
  z : ∃ Q', Cz w0.heap.size W b s n X.length (inLs n (L ++ [l])) (lfm X L (L ++ [l]) ks) F P Q' cs ∧ ∀ k, Q' k = true ↔ Q k = true ∨ (k < X.length ∧ -l ∈ X.getD k [] ∧ k ∉ ks ∧ cnt (L ++ [l]) (X.getD k []) = 1)
  mo : Mo w (s.own b) W (s.own b)

theorem uPut_in (w0 : World) (b : Nat) (s : Sz) (n : Nat) (X : List (List Int)) (L : List Int) (Q : Nat → Bool) (cs : List (Int × Nat)) (l : Int) (w : World) (h : Cw w0 w b s n X L Q cs) (hf : fmd l = true) (hl : idx l < n) (hL : l ∉ L) :
    Calls Tryd.prog 38 #[.pointer (some ⟨b, 0, none⟩), .int .i64 l] w fun e w' => e = .returned (.tuple #[]) ∧ ∃ Q', Cw w0 w' b s n X (L ++ [l]) Q' cs ∧ newQ X L l Q Q' ∧ Mo w (s.own b) w' (s.own b) := by
  have HW : Hid (Cw w0 w b s n X L Q cs) := h
  have HB0 : Hid (Below w0.heap.size w0 w ∧ ∀ k, s.own b k → w0.heap.size ≤ k) := ⟨h.bel, fun k hk => (h.lt k hk).1⟩
  clear h
  go_enter Tryd.func38, Tryd.ntmps38
  go_wp2_with fail
  refine (uMeets_any w0 b s n X L Q cs l w HW.out).mono ?_
  rintro e w1 ⟨rfl, bel1⟩
  have HW1 : Hid (Cw w0 w1 b s n X L Q cs ∧ Mo w (s.own b) w1 (s.own b)) := ⟨HW.out.below bel1, Mo.below bel1⟩
  clear bel1 HW
  have hdt : decide (idx l < n) = true := decide_eq_true hl
  rw [hdt]
  go_wp2_with fail
  refine (uHolds_any w0 b s n X L Q cs l w1 HW1.out.1 hf hl).mono ?_
  rintro e w2 ⟨rfl, bel2⟩
  have hdf : decide (l ∈ L) = false := decide_eq_false hL
  have HW2 : Hid (Cw w0 w2 b s n X L Q cs ∧ Mo w (s.own b) w2 (s.own b)) := ⟨HW1.out.1.below bel2, HW1.out.2.trans (Mo.below bel2)⟩
  rw [hdf]
  clear bel2 HW1 hdt hdf
  obtain ⟨F, P, hz, hp, hP⟩ := HW2.out.1.z
  have hfit := HW2.out.1.fit
  have hn := hfit.hn
  have hr := fmd_range hf
  obtain ⟨i, hi⟩ : ∃ i : Nat, idx l = i := ⟨(idx l).toNat, by have := idx_range hf; omega⟩
  have hnl := idx_neg_lt hf hfit.ev hl
  obtain ⟨j, hj⟩ : ∃ j : Nat, idx (-l) = j := ⟨(idx (-l)).toNat, by have := idx_range (fmd_neg hf); omega⟩
  have hin : i < n := by omega
  have hjn : j < n := by omega
  have hFj : F[j]? = some (F[j]'(by rw [hp.len]; exact hjn)) := List.getElem?_eq_getElem _
  obtain ⟨p0, hp0⟩ : ∃ p0, F[j]? = some p0 := ⟨_, hFj⟩
  obtain ⟨hp1, ks0, hch, hpw, hks⟩ := hp.ch j p0 hp0
  have hlit : litAt (j : Int) = -l := by rw [← hj, litAt_idx (fmd_neg hf)]
  rw [hlit] at hks
  obtain ⟨gI, cI, eI, i1, i2, i3⟩ := row_some hz.i (by omega)
  obtain ⟨gF, cF, eF, f1, f2, f3⟩ := row_some hz.f (by omega)
  obtain ⟨gP, cP, eP, p1, p2, p3⟩ := row_some hz.p (by have := hp.pos; omega)
  have b1 := hz.c1
  have rI := hz.i
  rw [eI] at b1 rI
  have kI := row_cell rI (j := i) (x := .bool (decide (l ∈ L))) (by rw [List.getElem?_map, inLs_at hf hi hin]; rfl)
  have zI := row_fz rI i
  have HI : Hid (idx l = i) := hi
  have HJ : Hid (idx (-l) = j) := hj
  -- behind the first store
  obtain ⟨z1, m1⟩ := hz.setI eI hin true
  rw [inLs_set (L' := L ++ [l]) hn hf hi true (by simp) (fun x hx => by simp [hx])] at z1
  have hst : lfm X L (L ++ [l]) ks0 = lefts X L := lfm_start fun k hk hnk => by
    have hno : -l ∉ X.getD k [] := fun h2 => hnk ((hks k).2 h2)
    rw [cnt_put hL, if_neg hno]; rfl
  have HP1 : Hid (Pt w0 w (w2.setCell ⟨gI, i, none⟩ (.bool true)) b s n X L l Q cs F P ks0) := ⟨⟨Q, by rw [hst]; exact z1, fun k => ⟨.inl, fun h2 => h2.elim id fun ⟨_, h3, h4, _⟩ => absurd ((hks k).2 h3) h4⟩⟩, HW2.out.2.trans m1⟩
  have HPl : Hid (Pls X n F P ∧ P.length ≤ 2147483648 ∧ Fit X n ∧ Below w0.heap.size w0 w2) := ⟨hp, hP, hfit, HW2.out.1.bel⟩
  have HEP : Hid (s.P = .slice (some ⟨gP, 0, none⟩) P.length cP) := eP
  have HEF : Hid (s.F = .slice (some ⟨gF, 0, none⟩) n cF) := eF
  have HF0 : Hid (F[j]? = some p0) := hp0
  have HCH : Hid (Ch P p0 ks0 ∧ ks0.Pairwise (· > ·) ∧ ∀ k, k ∈ ks0 ↔ -l ∈ X.getD k []) := ⟨hch, hpw, hks⟩
  have hwl : IntKind.i64.wrap (-l) = -l := by rw [IntKind.wrap_i64]; omega
  have HL : Hid (l ∉ L ∧ fmd l = true) := ⟨hL, hf⟩
  clear hz z1 m1 hp hst hch hpw hks hlit rI hFj hp0 eI eF eP hnl hi hj hfit HW2 hl
  generalize decide (l ∈ L) = dl at *
  go_upto_region 1 with fail
  go_cut [] from 15 to 21 (fun wx => Pt w0 w wx b s n X L l Q cs F P ks0)
  case first =>
    go_region_law (go_simp; go_at_call 56; refine (index_any _ _).mono ?_; intro e w9 hh; rw [hh.1, hh.2, HI.out]; clear hh e w9; dsimp only)
    all_goals
      have HP2 : Hid (Pt w0 w (w2.setCell ⟨gI, i, none⟩ (.bool true)).drew b s n X L l Q cs F P ks0) := ⟨by obtain ⟨Q', h1, h2⟩ := HP1.out.z; exact ⟨Q', h1.kept fun _ _ => rfl, h2⟩, HP1.out.mo.trans (Mo.below (Below.refl _ _).drew)⟩
      go_wp2_with fail
      go_meet
      exact HP2.out
  case rest =>
  have HP2 : Hid (Pt w0 w wc b s n X L l Q cs F P ks0) := hcut
  clear hcut HP1 b1 kI zI
  generalize wc = w3 at *
  obtain ⟨Q3, hz3, -⟩ := HP2.out.z
  have b3 := hz3.c3
  have rF := hz3.f
  rw [HEF.out] at b3 rF
  have kF := row_cell rF (j := j) (x := .int .i32 (p0 : Int)) (by unfold i32s; rw [List.getElem?_map, List.getElem?_map, HF0.out]; rfl)
  clear hz3 rF
  go_upto_region 2 with fail
  go_cut [4] from 22 to 30 (fun p' wx => p' = .int .i32 (p0 : Int) ∧ Pt w0 w wx b s n X L l Q cs F P ks0)
  case first =>
    go_region_law (go_simp; go_at_call 56; refine (index_any _ _).mono ?_; intro e w9 hh; rw [hh.1, hh.2, HJ.out]; clear hh e w9; dsimp only)
    all_goals
      have HP3 : Hid (Pt w0 w w3.drew b s n X L l Q cs F P ks0) := ⟨by obtain ⟨Q', h1, h2⟩ := HP2.out.z; exact ⟨Q', h1.kept fun _ _ => rfl, h2⟩, HP2.out.mo.trans (Mo.below (Below.refl _ _).drew)⟩
      go_wp2_with fail
      go_meet
      exact ⟨rfl, HP3.out⟩
  case rest =>
  obtain ⟨rfl, hcut⟩ := hcut
  have HP3 : Hid (Pt w0 w wc b s n X L l Q cs F P ks0) := hcut
  clear hcut HP2 b3 kF
  generalize wc = w4 at *
  go_wp2
  go_loopg [4] p0 (fun g p' wr => ∃ ks, p' = .int .i32 ((g : Nat) : Int) ∧ Ch P g ks ∧ ks.Pairwise (· > ·) ∧ (∀ k ∈ ks, -l ∈ X.getD k []) ∧ g < P.length ∧ Pt w0 w wr b s n X L l Q cs F P ks)
  case atStart => exact ⟨ks0, rfl, HCH.out.1, HCH.out.2.1, fun k hk => (HCH.out.2.2 k).1 hk, hp1, HP3.out⟩
  case round =>
    obtain ⟨ks, rfl, hch, hpw, hks, hgP, hpt⟩ := hrel
    have HT : Hid (Pt w0 w wr b s n X L l Q cs F P ks) := hpt
    clear hpt
    by_cases hg0 : 0 < gk
    · obtain ⟨k, q, r, g1, g2, rfl, g4⟩ := hch.inv hg0
      obtain ⟨hkX, -⟩ := HPl.out.1.num gk k q hg0 g1
      have hkl : -l ∈ X.getD k [] := hks k (by simp)
      have hkr : k ∉ r := fun h2 => Nat.lt_irrefl _ ((List.pairwise_cons.1 hpw).1 k h2)
      obtain ⟨Qz, hz, hQz⟩ := HT.out.z
      have b4 := hz.c4
      have b2 := hz.c2
      have b5 := hz.c5
      have rP := hz.p
      rw [HEP.out] at b4 rP
      obtain ⟨k1, k2⟩ := twp_at g1
      have x1 := row_cell rP k1
      have x2 := row_cell rP k2
      obtain ⟨gE, cE, eE, e1, e2, e3⟩ := row_some hz.e (by omega)
      have rE := hz.e
      rw [eE] at b2 rE
      have x3 := row_cell rE (j := k) (x := .int .i32 (cnt L (X.getD k []) : Int)) (by unfold i32s; rw [List.getElem?_map, lfm_at hkX (by simp)]; rfl)
      have x4 := row_fz rE k
      obtain ⟨z1, m1⟩ := hz.setE eE hkX (cnt (L ++ [l]) (X.getD k []) : Int)
      rw [lfm_step hkX hkr] at z1
      have y4 := z1.c4
      have y2 := z1.c2
      have y5 := z1.c5
      rw [HEP.out] at y4
      rw [eE] at y2
      have rP2 := z1.p
      rw [HEP.out] at rP2
      have y6 := row_cell rP2 k2
      have hcp := cnt_put (c := X.getD k []) HL.out.1
      rw [if_pos hkl] at hcp
      have hpos := cnt_pos HL.out.1 hkl
      have hcl : cnt L (X.getD k []) ≤ 1073741824 := Nat.le_trans (cnt_le _ _) (HPl.out.2.2.1.len _ (getD_in hkX))
      have hX := HPl.out.2.2.1.num
      have y3 : (wr.setCell ⟨gE, k, none⟩ (.int .i32 (cnt (L ++ [l]) (X.getD k []) : Int))).cell? ⟨gE, k, none⟩ = some (.int .i32 (cnt (L ++ [l]) (X.getD k []) : Int)) := cell_set_same x3 _
      have HZ : Hid (Cz w0.heap.size (wr.setCell ⟨gE, k, none⟩ (.int .i32 (cnt (L ++ [l]) (X.getD k []) : Int))) b s n X.length (inLs n (L ++ [l])) (lfm X L (L ++ [l]) r) F P Qz cs ∧ Mo w (s.own b) (wr.setCell ⟨gE, k, none⟩ (.int .i32 (cnt (L ++ [l]) (X.getD k []) : Int))) (s.own b)) := ⟨z1, HT.out.mo.trans m1⟩
      have HQz : Hid (∀ j, Qz j = true ↔ Q j = true ∨ (j < X.length ∧ -l ∈ X.getD j [] ∧ j ∉ k :: r ∧ cnt (L ++ [l]) (X.getD j []) = 1)) := hQz
      have HR : Hid (Ch P q r ∧ r.Pairwise (· > ·) ∧ (∀ j ∈ r, -l ∈ X.getD j []) ∧ q < P.length) := ⟨g4, (List.pairwise_cons.1 hpw).2, fun j hj => hks j (List.mem_cons_of_mem _ hj), by omega⟩
      have HK : Hid (-l ∈ X.getD k [] ∧ k ∉ r ∧ k < X.length) := ⟨hkl, hkr, hkX⟩
      have HM : Hid (q < gk) := g2
      have HPP : Hid (P.length ≤ 2147483648) := HPl.out.2.1
      have hG1 := g1
      clear hz z1 m1 hQz rP rE rP2 k1 k2 hch hpw hks g1 g4 hkl hkr eE HT
      generalize hc' : cnt (L ++ [l]) (X.getD k []) = c' at *
      have HC : Hid (cnt (L ++ [l]) (X.getD k []) = c') := hc'
      generalize cnt L (X.getD k []) = c at *
      clear hc'
      obtain rfl : c = c' + 1 := by omega
      have hwc2 : IntKind.i32.wrap (c' : Int) = c' := by rw [wrap_i32']; omega
      clear hcp hpos
      have HG1 : Hid (P[gk]? = some (k, q)) := hG1
      clear hG1
      generalize hNX : X.length = N at *
      generalize hPn : P.length = Pn at *
      have HNX : Hid (X.length = N) := hNX
      have HPn : Hid (P.length = Pn) := hPn
      clear hNX hPn
      have g1' : gk * 2 + 1 < 4294967297 := by omega
      by_cases hone : c' = 1
      · have hb1 : ((c' : Int) == 1) = true := by simp; omega
        have HONE : Hid (c' = 1) := hone
        clear hone
        go_wp2_with fail
        refine (wAdd_any w0.heap.size s.W s.L N Qz k _ HZ.out.1.w (HK.out.2.2) (by omega)).mono ?_
        rintro e w5 ⟨rfl, hw5, hm5⟩
        obtain ⟨z5, m5⟩ := HZ.out.1.putW hw5 hm5
        have u4 := z5.c4
        have rP := z5.p
        rw [HEP.out] at u4 rP
        have HZ5 : Hid (Pt w0 w w5 b s n X L l Q cs F P r) := ⟨⟨_, by rw [HNX.out]; exact z5, fun j => by
          rw [qadd_at, HQz.out j, HNX.out]
          constructor
          · rintro ((a | ⟨a, b, c, d⟩) | a)
            · exact .inl a
            · exact .inr ⟨a, b, fun h2 => c (List.mem_cons_of_mem _ h2), d⟩
            · subst a; exact .inr ⟨HK.out.2.2, HK.out.1, HK.out.2.1, HC.out.trans HONE.out⟩
          · rintro (a | ⟨a, b, c, d⟩)
            · exact .inl (.inl a)
            · by_cases e : j = k
              · exact .inr e
              · exact .inl (.inr ⟨a, b, by rw [List.mem_cons]; exact fun h2 => h2.elim e c, d⟩)⟩, HZ.out.2.trans m5⟩
        rw [HPn.out] at rP
        have x5 := row_cell rP (twp_at HG1.out).2
        clear rP hw5 hm5 z5 m5 HZ HQz x1 x2 x3 x4 b4 b2 b5 y4 y2 y5 y6 y3
        go_wp2
        go_roundg q
        case measure => exact HM.out
        case rel => exact ⟨r, rfl, HR.out.1, HR.out.2.1, HR.out.2.2.1, HR.out.2.2.2, HZ5.out⟩
      · have hne1 : ((c' : Int) == 1) = false := by simp; omega
        have HZ5 : Hid (Pt w0 w (wr.setCell ⟨gE, k, none⟩ (.int .i32 (c' : Int))) b s n X L l Q cs F P r) := ⟨⟨_, by rw [HNX.out]; exact HZ.out.1, fun j => by
          rw [HQz.out j, HNX.out]
          constructor
          · rintro (a | ⟨a, b, c, d⟩)
            · exact .inl a
            · exact .inr ⟨a, b, fun h2 => c (List.mem_cons_of_mem _ h2), d⟩
          · rintro (a | ⟨a, b, c, d⟩)
            · exact .inl a
            · by_cases e : j = k
              · subst e; rw [HC.out] at d; exact absurd d hone
              · exact .inr ⟨a, b, by rw [List.mem_cons]; exact fun h2 => h2.elim e c, d⟩⟩, HZ.out.2⟩
        clear HZ HQz
        go_wp2
        go_roundg q
        case measure => exact HM.out
        case rel => exact ⟨r, rfl, HR.out.1, HR.out.2.1, HR.out.2.2.1, HR.out.2.2.2, HZ5.out⟩
    · obtain rfl : gk = 0 := by omega
      have hk0 := hch.zero
      subst hk0
      have HF : Hid (∃ Q', Cw w0 wr b s n X (L ++ [l]) Q' cs ∧ newQ X L l Q Q' ∧ Mo w (s.own b) wr (s.own b)) := by
        obtain ⟨Q', z, hq⟩ := HT.out.z
        rw [lfm_end] at z
        refine ⟨Q', ⟨Mo.bel HB0.out.1 HB0.out.2 HT.out.mo, HPl.out.2.2.1, F, P, z, HPl.out.1, HPl.out.2.1⟩, fun k => (hq k).trans ?_, HT.out.mo⟩
        constructor
        · rintro (a | ⟨a, b, c, d⟩)
          · exact .inl a
          · exact .inr ⟨a, b, HL.out.1, d⟩
        · rintro (a | ⟨a, b, c, d⟩)
          · exact .inl a
          · exact .inr ⟨a, b, by simp, d⟩
      clear hch hks hgP
      go_wp2
      go_end0
      exact ⟨rfl, HF.out⟩
/-- put, of any literal -/
theorem uPut_any (w0 : World) (b : Nat) (s : Sz) (n : Nat) (X : List (List Int)) (L : List Int) (Q : Nat → Bool) (cs : List (Int × Nat)) (l : Int) (w : World) (h : Cw w0 w b s n X L Q cs) (hf : fmd l = true) :
    Calls Tryd.prog 38 #[.pointer (some ⟨b, 0, none⟩), .int .i64 l] w fun e w' => e = .returned (.tuple #[]) ∧ ∃ Q', Cw w0 w' b s n X (L ++ [l]) Q' cs ∧ newQ X L l Q Q' ∧ Mo w (s.own b) w' (s.own b) := by
  by_cases hl : idx l < n
  · by_cases hL : l ∈ L
    · have HW : Hid (Cw w0 w b s n X L Q cs) := h
      clear h
      go_enter Tryd.func38, Tryd.ntmps38
      go_wp2_with fail
      refine (uMeets_any w0 b s n X L Q cs l w HW.out).mono ?_
      rintro e w1 ⟨rfl, bel1⟩
      have HW1 : Hid (Cw w0 w1 b s n X L Q cs ∧ Mo w (s.own b) w1 (s.own b)) := ⟨HW.out.below bel1, Mo.below bel1⟩
      clear bel1 HW
      have hdt : decide (idx l < n) = true := decide_eq_true hl
      rw [hdt]
      go_wp2_with fail
      refine (uHolds_any w0 b s n X L Q cs l w1 HW1.out.1 hf hl).mono ?_
      rintro e w2 ⟨rfl, bel2⟩
      have hdf : decide (l ∈ L) = true := decide_eq_true hL
      have HF : Hid (∃ Q', Cw w0 w2 b s n X (L ++ [l]) Q' cs ∧ newQ X L l Q Q' ∧ Mo w (s.own b) w2 (s.own b)) := ⟨Q, (HW1.out.1.below bel2).congr (fun x _ _ => ⟨fun h => List.mem_append.2 (.inl h), fun h => (List.mem_append.1 h).elim id fun h2 => (by simpa using h2 : x = l) ▸ hL⟩), fun k => ⟨.inl, fun h => h.elim id fun h2 => absurd hL h2.2.2.1⟩, HW1.out.2.trans (Mo.below bel2)⟩
      rw [hdf]
      clear bel2 HW1 hdt hdf
      go_wp2
      refine bodyPost_ret (results_none rfl _ _ _) rfl ?_
      exact ⟨rfl, HF.out⟩
    · exact uPut_in w0 b s n X L Q cs l w h hf hl hL
  · have HW : Hid (Cw w0 w b s n X L Q cs) := h
    clear h
    go_enter Tryd.func38, Tryd.ntmps38
    go_wp2_with fail
    refine (uMeets_any w0 b s n X L Q cs l w HW.out).mono ?_
    rintro e w1 ⟨rfl, bel1⟩
    have HF : Hid (∃ Q', Cw w0 w1 b s n X (L ++ [l]) Q' cs ∧ newQ X L l Q Q' ∧ Mo w (s.own b) w1 (s.own b)) := by
      refine ⟨Q, (HW.out.below bel1).congr (fun x _ hx => ⟨fun h => List.mem_append.2 (.inl h), fun h => (List.mem_append.1 h).elim id fun h2 => ?_⟩), fun k => ⟨.inl, fun h => h.elim id fun h2 => ?_⟩, Mo.below bel1⟩
      · have : x = l := by simpa using h2
        rw [this] at hx; omega
      · have h3 := HW.out.fit.lit _ (getD_in h2.1) _ h2.2.1
        have h4 := idx_neg_lt h3.1 HW.out.fit.ev h3.2
        rw [Int.neg_neg] at h4
        omega
    have hdt : decide (idx l < n) = false := decide_eq_false (by omega)
    rw [hdt]
    clear bel1 HW hdt
    go_wp2
    refine bodyPost_ret (results_none rfl _ _ _) rfl ?_
    exact ⟨rfl, HF.out⟩
end Go.Proofs.YtijhabhbeambeaaDoor
