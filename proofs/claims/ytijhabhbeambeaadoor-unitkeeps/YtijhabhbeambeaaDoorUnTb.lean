/-
  unit: takeBack.
  KEEP: set on app at below new trans refl start ap kept rd rds mono lt add none own nil put len pos setF setV putL putR other neV same_any
-/
import Derived.Test.YtijhabhbeambeaaDoorUnPt
set_option linter.unusedSimpArgs false
set_option linter.unusedVariables false
namespace Go.Proofs.YtijhabhbeambeaaDoor
open Go Go.RowKit
/-- the state inside of takeBack -/
structure Tk (w0 w W : World) (b : Nat) (s : Sz) (n : Nat) (X : List (List Int)) (L : List Int) (l : Int) (Q : Nat → Bool) (cs : List (Int × Nat)) (F : List Nat) (P : List (Nat × Nat)) (ks : List Nat) : Prop where
  z : Cz w0.heap.size W b s n X.length (inLs n L) (lfm X (L ++ [l]) L ks) F P Q cs
  mo : Mo w (s.own b) W (s.own b)
set_option maxRecDepth 100000 in
set_option maxHeartbeats 3200000 in
theorem uBack_any (w0 : World) (b : Nat) (s : Sz) (n : Nat) (X : List (List Int)) (L : List Int) (Q : Nat → Bool) (cs : List (Int × Nat)) (l : Int) (w : World) (h : Cw w0 w b s n X (L ++ [l]) Q cs) (hf : fmd l = true) (hl : idx l < n) (hL : l ∉ L) :
    Calls Tryd.prog 57 #[.pointer (some ⟨b, 0, none⟩), .int .i64 l] w fun e w' => e = .returned (.tuple #[]) ∧ Cw w0 w' b s n X L Q cs ∧ Mo w (s.own b) w' (s.own b) := by
  have HW2 : Hid (Cw w0 w b s n X (L ++ [l]) Q cs) := h
  have HB0 : Hid (Below w0.heap.size w0 w ∧ ∀ k, s.own b k → w0.heap.size ≤ k) := ⟨h.bel, fun k hk => (h.lt k hk).1⟩
  clear h
  obtain ⟨F, P, hz, hp, hP⟩ := HW2.out.z
  have hfit := HW2.out.fit
  have hn := hfit.hn
  have hr := fmd_range hf
  obtain ⟨i, hi⟩ : ∃ i : Nat, idx l = i := ⟨(idx l).toNat, by have := idx_range hf; omega⟩
  have hnl := idx_neg_lt hf hfit.ev hl
  obtain ⟨j, hj⟩ : ∃ j : Nat, idx (-l) = j := ⟨(idx (-l)).toNat, by have := idx_range (fmd_neg hf); omega⟩
  have hin : i < n := by omega
  have hjn : j < n := by omega
  have hFj : F[j]? = some (F[j]'(by rw [hp.len]; exact hjn)) := List.getElem?_eq_getElem _
  obtain ⟨p0, hp0⟩ : ∃ p0, F[j]? = some p0 := ⟨_, hFj⟩
  obtain ⟨hp1, ks0, hch, hpw, hks⟩ := hp.ch j p0 hp0
  have hlit : litAt (j : Int) = -l := by rw [← hj, litAt_idx (fmd_neg hf)]
  rw [hlit] at hks
  obtain ⟨gI, cI, eI, i1, i2, i3⟩ := row_some hz.i (by omega)
  obtain ⟨gF, cF, eF, f1, f2, f3⟩ := row_some hz.f (by omega)
  obtain ⟨gP, cP, eP, p1, p2, p3⟩ := row_some hz.p (by have := hp.pos; omega)
  have b1 := hz.c1
  have rI := hz.i
  rw [eI] at b1 rI
  have kI := row_cell rI (j := i) (x := .bool (decide (l ∈ L ++ [l]))) (by rw [List.getElem?_map, inLs_at hf hi hin]; rfl)
  have zI := row_fz rI i
  have HI : Hid (idx l = i) := hi
  have HJ : Hid (idx (-l) = j) := hj
  -- behind the first store
  obtain ⟨z1, m1⟩ := hz.setI eI hin false
  rw [inLs_set (L' := L) hn hf hi false (by simp [hL]) (fun x hx => by simp [hx])] at z1
  have hst : lfm X (L ++ [l]) L ks0 = lefts X (L ++ [l]) := lfm_start fun k hk hnk => by
    have hno : -l ∉ X.getD k [] := fun h2 => hnk ((hks k).2 h2)
    rw [cnt_put hL, if_neg hno]; rfl
  have HP1 : Hid (Tk w0 w (w.setCell ⟨gI, i, none⟩ (.bool false)) b s n X L l Q cs F P ks0) := ⟨by rw [hst]; exact z1, m1⟩
  have HPl : Hid (Pls X n F P ∧ P.length ≤ 2147483648 ∧ Fit X n) := ⟨hp, hP, hfit⟩
  have HEP : Hid (s.P = .slice (some ⟨gP, 0, none⟩) P.length cP) := eP
  have HEF : Hid (s.F = .slice (some ⟨gF, 0, none⟩) n cF) := eF
  have HF0 : Hid (F[j]? = some p0) := hp0
  have HCH : Hid (Ch P p0 ks0 ∧ ks0.Pairwise (· > ·) ∧ ∀ k, k ∈ ks0 ↔ -l ∈ X.getD k []) := ⟨hch, hpw, hks⟩
  have hwl : IntKind.i64.wrap (-l) = -l := by rw [IntKind.wrap_i64]; omega
  have HL : Hid (l ∉ L ∧ fmd l = true) := ⟨hL, hf⟩
  clear hz z1 m1 hp hst hch hpw hks hlit rI hFj hp0 eI eF eP hnl hi hj hfit HW2 hl
  generalize decide (l ∈ L ++ [l]) = dl at *
  go_enter Tryd.func57, Tryd.ntmps57
  go_upto_region 0 with fail
  go_cut [] from 5 to 11 (fun wx => Tk w0 w wx b s n X L l Q cs F P ks0)
  case first =>
    go_region_law (go_simp; go_at_call 56; refine (index_any _ _).mono ?_; intro e w9 hh; rw [hh.1, hh.2, HI.out]; clear hh e w9; dsimp only)
    all_goals
      have HP2 : Hid (Tk w0 w (w.setCell ⟨gI, i, none⟩ (.bool false)).drew b s n X L l Q cs F P ks0) := ⟨HP1.out.z.kept fun _ _ => rfl, HP1.out.mo.trans (Mo.below (Below.refl _ _).drew)⟩
      go_wp2_with fail
      go_meet
      exact HP2.out
  case rest =>
  have HP2 : Hid (Tk w0 w wc b s n X L l Q cs F P ks0) := hcut
  clear hcut HP1 b1 kI zI
  generalize wc = w3 at *
  have hz3 := HP2.out.z
  have b3 := hz3.c3
  have rF := hz3.f
  rw [HEF.out] at b3 rF
  have kF := row_cell rF (j := j) (x := .int .i32 (p0 : Int)) (by unfold i32s; rw [List.getElem?_map, List.getElem?_map, HF0.out]; rfl)
  clear hz3 rF
  go_upto_region 1 with fail
  go_cut [4] from 12 to 20 (fun p' wx => p' = .int .i32 (p0 : Int) ∧ Tk w0 w wx b s n X L l Q cs F P ks0)
  case first =>
    go_region_law (go_simp; go_at_call 56; refine (index_any _ _).mono ?_; intro e w9 hh; rw [hh.1, hh.2, HJ.out]; clear hh e w9; dsimp only)
    all_goals
      have HP3 : Hid (Tk w0 w w3.drew b s n X L l Q cs F P ks0) := ⟨HP2.out.z.kept fun _ _ => rfl, HP2.out.mo.trans (Mo.below (Below.refl _ _).drew)⟩
      go_wp2_with fail
      go_meet
      exact ⟨rfl, HP3.out⟩
  case rest =>
  obtain ⟨rfl, hcut⟩ := hcut
  have HP3 : Hid (Tk w0 w wc b s n X L l Q cs F P ks0) := hcut
  clear hcut HP2 b3 kF
  generalize wc = w4 at *
  go_wp2
  go_loopg [4] p0 (fun g p' wr => ∃ ks, p' = .int .i32 ((g : Nat) : Int) ∧ Ch P g ks ∧ ks.Pairwise (· > ·) ∧ (∀ k ∈ ks, -l ∈ X.getD k []) ∧ g < P.length ∧ Tk w0 w wr b s n X L l Q cs F P ks)
  case atStart => exact ⟨ks0, rfl, HCH.out.1, HCH.out.2.1, fun k hk => (HCH.out.2.2 k).1 hk, hp1, HP3.out⟩
  case round =>
    obtain ⟨ks, rfl, hch, hpw, hks, hgP, hpt⟩ := hrel
    have HT : Hid (Tk w0 w wr b s n X L l Q cs F P ks) := hpt
    clear hpt
    by_cases hg0 : 0 < gk
    · obtain ⟨k, q, r, g1, g2, rfl, g4⟩ := hch.inv hg0
      obtain ⟨hkX, -⟩ := HPl.out.1.num gk k q hg0 g1
      have hkl : -l ∈ X.getD k [] := hks k (by simp)
      have hkr : k ∉ r := fun h2 => Nat.lt_irrefl _ ((List.pairwise_cons.1 hpw).1 k h2)
      have hz := HT.out.z
      have b4 := hz.c4
      have b2 := hz.c2
      have rP := hz.p
      rw [HEP.out] at b4 rP
      obtain ⟨k1, k2⟩ := twp_at g1
      have x1 := row_cell rP k1
      have x2 := row_cell rP k2
      obtain ⟨gE, cE, eE, e1, e2, e3⟩ := row_some hz.e (by omega)
      have rE := hz.e
      rw [eE] at b2 rE
      have x3 := row_cell rE (j := k) (x := .int .i32 (cnt (L ++ [l]) (X.getD k []) : Int)) (by unfold i32s; rw [List.getElem?_map, lfm_at hkX (by simp)]; rfl)
      have x4 := row_fz rE k
      obtain ⟨z1, m1⟩ := hz.setE eE hkX (cnt L (X.getD k []) : Int)
      rw [lfm_step hkX hkr] at z1
      have hcp := cnt_put (c := X.getD k []) HL.out.1
      rw [if_pos hkl] at hcp
      have hpos := cnt_pos HL.out.1 hkl
      have hcl : cnt L (X.getD k []) ≤ 1073741824 := Nat.le_trans (cnt_le _ _) (HPl.out.2.2.len _ (getD_in hkX))
      have hX := HPl.out.2.2.num
      have HZ : Hid (Tk w0 w (wr.setCell ⟨gE, k, none⟩ (.int .i32 (cnt L (X.getD k []) : Int))) b s n X L l Q cs F P r) := ⟨z1, HT.out.mo.trans m1⟩
      have HR : Hid (Ch P q r ∧ r.Pairwise (· > ·) ∧ (∀ j ∈ r, -l ∈ X.getD j []) ∧ q < P.length) := ⟨g4, (List.pairwise_cons.1 hpw).2, fun j hj => hks j (List.mem_cons_of_mem _ hj), by omega⟩
      have HM : Hid (q < gk) := g2
      have hPP : P.length ≤ 2147483648 := HPl.out.2.1
      have HG1 : Hid (P[gk]? = some (k, q)) := g1
      clear hz z1 m1 rP rE k1 k2 hch hpw hks g1 g4 hkl hkr eE HT
      generalize cnt (L ++ [l]) (X.getD k []) = c' at *
      generalize cnt L (X.getD k []) = c at *
      obtain rfl : c = c' + 1 := by omega
      have hwc2 : IntKind.i32.wrap ((c' : Int) + 1) = ((c' + 1 : Nat) : Int) := by rw [wrap_i32']; omega
      clear hcp hpos
      have ecc : ((c' + 1 : Nat) : Int) = (c' : Int) + 1 := by omega
      rw [ecc] at HZ hwc2
      clear ecc
      generalize hNX : X.length = N at *
      generalize hPn : P.length = Pn at *
      have HNX : Hid (X.length = N) := hNX
      have HPn : Hid (P.length = Pn) := hPn
      clear hNX hPn
      have g1' : gk * 2 + 1 < 4294967297 := by omega
      go_upto_region 4 with fail
      go_region_law fail
      all_goals
        have HZ5 : Hid (Tk w0 w (wr.setCell ⟨gE, k, none⟩ (.int .i32 ((c' : Int) + 1))).drew b s n X L l Q cs F P r) := ⟨HZ.out.z.kept fun _ _ => rfl, HZ.out.mo.trans (Mo.below (Below.refl _ _).drew)⟩
        clear HZ x1 x2 x3 x4 b4 b2
        generalize (wr.setCell ⟨gE, k, none⟩ (.int .i32 ((c' : Int) + 1))).drew = w5 at *
        have z5 := HZ5.out.z
        have u4 := z5.c4
        have rP := z5.p
        rw [HEP.out] at u4 rP
        rw [HPn.out] at rP
        have x5 := row_cell rP (twp_at HG1.out).2
        clear rP z5
        go_wp2
        go_roundg q
        case measure => exact HM.out
        case rel => exact ⟨r, rfl, HR.out.1, HR.out.2.1, HR.out.2.2.1, HR.out.2.2.2, HZ5.out⟩
    · obtain rfl : gk = 0 := by omega
      have hk0 := hch.zero
      subst hk0
      have HF : Hid (Cw w0 wr b s n X L Q cs ∧ Mo w (s.own b) wr (s.own b)) := by
        have z := HT.out.z
        rw [lfm_end] at z
        exact ⟨⟨Mo.bel HB0.out.1 HB0.out.2 HT.out.mo, HPl.out.2.2, F, P, z, HPl.out.1, HPl.out.2.1⟩, HT.out.mo⟩
      clear hch hks hgP
      go_wp2
      go_end0
      exact ⟨rfl, HF.out⟩
end Go.Proofs.YtijhabhbeambeaaDoor
