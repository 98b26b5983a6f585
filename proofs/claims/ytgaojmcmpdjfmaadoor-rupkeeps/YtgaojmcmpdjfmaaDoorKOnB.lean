/-
  rup: back.
  KEEP: set on app at below new trans refl start ap kept rd rds mono lt add none own nil put len pos setF setV putL putR other neV same_any
-/
import Derived.Test.YtgaojmcmpdjfmaaDoorKOnPt
set_option linter.unusedSimpArgs false
set_option linter.unusedVariables false
namespace Go.Proofs.YtgaojmcmpdjfmaaDoor
open Go Go.RowKit

/-- a slice cut to nothing -/
def cut0 : Value → Value
  | .slice a _ c => .slice a 0 c
  | v => v
theorem row_cut {W : World} {B e sz n : Nat} {v : Value} {xs : List Value} (h : W.ownsRow B e sz v n xs) : W.ownsRow B e sz (cut0 v) 0 [] ∧ (cut0 v).ownBlock = v.ownBlock := by
  have h0 := h
  rcases h.2 with ⟨rfl, _⟩ | ⟨g, cap, cur, rfl, _⟩
  · exact ⟨World.ownsRow_nil _ _ _ _, rfl⟩
  · have := own_cut h0 (m := 0) (Nat.zero_le _)
    rw [Nat.zero_mul, List.take_zero] at this
    exact ⟨this, rfl⟩
theorem grown_refl (W : World) (o : Option Nat) : W.grownBy W o := ⟨rfl, rfl, rfl, Nat.le_refl _, fun _ _ _ => rfl⟩
section
variable {B : Nat} {W W' : World} {b : Nat} {s : Sy} {n N : Nat} {A : List Bool} {E : List Int} {F : List Nat} {P : List (Nat × Nat)} {M : List Int} {R : List Nat}
theorem Oz.cutM (h : Oz B W b s n N A E F P M R) : Oz B (W.setCell ⟨b, 5, none⟩ (cut0 s.M)) b { s with M := cut0 s.M } n N A E F P [] R ∧ Mo W (s.own b) (W.setCell ⟨b, 5, none⟩ (cut0 s.M)) (({ s with M := cut0 s.M } : Sy).own b) :=
  h.putM (M' := []) (grown_refl _ _) (.inl (row_cut h.m).2) (row_cut h.m).1
theorem Oz.cutR (h : Oz B W b s n N A E F P M R) : Oz B (W.setCell ⟨b, 6, none⟩ (cut0 s.R)) b { s with R := cut0 s.R } n N A E F P M [] ∧ Mo W (s.own b) (W.setCell ⟨b, 6, none⟩ (cut0 s.R)) (({ s with R := cut0 s.R } : Sy).own b) :=
  h.putR (R' := []) (grown_refl _ _) (.inl (row_cut h.r).2) (row_cut h.r).1
end
/-- the state inside of back: ks are still to be counted -/
structure Tb (w0 w W : World) (b : Nat) (s : Sy) (n : Nat) (X : List (List Int)) (K L : List Int) (l : Int) (M : List Int) (R : List Nat) (F : List Nat) (P : List (Nat × Nat)) (ks : List Nat) : Prop where
  z : Oz w0.heap.size W b s n X.length (inLs n (K ++ L)) (lfm X (L ++ [l]) L ks) F P M R
  mo : Mo w (s.own b) W (s.own b)
theorem Tb.below {w0 w W W' : World} {b : Nat} {s : Sy} {n : Nat} {X : List (List Int)} {K L : List Int} {l : Int} {M : List Int} {R F : List Nat} {P : List (Nat × Nat)} {ks : List Nat} (h : Tb w0 w W b s n X K L l M R F P ks) (hb : Below W.heap.size W W') : Tb w0 w W' b s n X K L l M R F P ks := ⟨h.z.below hb, h.mo.trans (Mo.below hb)⟩
/-- between the literals -/
structure Tu (w0 w W : World) (b : Nat) (s : Sy) (n : Nat) (X : List (List Int)) (K L M : List Int) (R : List Nat) (F : List Nat) (P : List (Nat × Nat)) : Prop where
  z : Oz w0.heap.size W b s n X.length (inLs n (K ++ L)) (lefts X L) F P M R
  mo : Mo w (s.own b) W (s.own b)
theorem lefts_set_eq {X : List (List Int)} {L L' : List Int} (h : ∀ x, x ∈ L ↔ x ∈ L') : lefts X L = lefts X L' := by
  unfold lefts
  apply List.map_congr_left
  intro c _
  rw [cnt_congr (fun _ => Iff.rfl) fun x _ => h (-x)]
theorem inLs_set_eq {n : Nat} {L L' : List Int} (h : ∀ x, x ∈ L ↔ x ∈ L') : inLs n L = inLs n L' := by
  unfold inLs
  apply List.map_congr_left
  intro i _
  rw [Bool.eq_iff_iff, decide_eq_true_eq, decide_eq_true_eq]
  exact h _
set_option maxRecDepth 100000 in
set_option maxHeartbeats 4000000 in
theorem oBack_any (w0 : World) (b : Nat) (s : Sy) (n : Nat) (css : List (List Int)) (K M : List Int) (R : List Nat) (w : World) (h : Ow w0 w b s n css K M R) (hK : ∀ x ∈ M, x ∉ K) :
    Calls Tryd.prog 55 #[.pointer (some ⟨b, 0, none⟩)] w fun e w' => e = .returned (.tuple #[]) ∧ ∃ s', Ow w0 w' b s' n css K [] [] ∧ s'.C = s.C ∧ Mo w (s.own b) w' (s'.own b) := by
  have HW : Hid (Ow w0 w b s n css K M R) := h
  have hM := h.few
  have hn := h.fit.hn
  have hcn := h.fit.num
  obtain ⟨F, P, hz, hp, hP⟩ := h.z
  have HPl : Hid (Pls (reds K css) n F P ∧ P.length ≤ 2147483648 ∧ Fit (reds K css) n) := ⟨hp, hP, h.fit.reds K⟩
  have b5 := hz.c5
  obtain ⟨aM, cM, eM⟩ := row_form' hz.m
  obtain ⟨aR, cR, eR⟩ := row_form' hz.r
  have HEM : Hid (s.M = .slice aM M.length cM ∧ s.R = .slice aR R.length cR) := ⟨eM, eR⟩
  have HMf : Hid (∀ j, j < M.length → fmd (M.getD j 0) = true ∧ idx (M.getD j 0) < n ∧ M.getD j 0 ∉ K ∧ M.getD j 0 ∉ M.drop (j + 1) ∧ ∀ x, x ∈ M.drop j ↔ x ∈ M.drop (j + 1) ++ [M.getD j 0]) := fun j hj => by
    have hm : M.getD j 0 ∈ M := getD_mem' (d := 0) hj
    have e : M.drop j = M.getD j 0 :: M.drop (j + 1) := by rw [List.drop_eq_getElem_cons hj, List.getD_eq_getElem?_getD, List.getElem?_eq_getElem hj]; rfl
    have hnd : (M.drop j).Nodup := h.mn.sublist (List.drop_sublist _ _)
    rw [e] at hnd
    refine ⟨(h.mf _ hm).1, (h.mf _ hm).2, hK _ hm, (List.nodup_cons.1 hnd).1, fun x => ?_⟩
    rw [e, List.mem_cons, List.mem_append, List.mem_singleton]
    exact Or.comm
  have HT0 : Hid (Tu w0 w w b s n (reds K css) K (M.drop 0) M R F P) := ⟨by rw [reds_len]; simpa using hz, Mo.refl _ _⟩
  have hlen : M.length * 8 ≤ 140737488355328 := by omega
  have HMc : Hid (∀ (W : World) (hT : W.ownsRow w0.heap.size 3 1 s.M M.length (i64s M)) (j : Nat), j < M.length → ∃ g, aM = some ⟨g, 0, none⟩ ∧ W.cell? ⟨g, j, none⟩ = some (.int .i64 (M.getD j 0)) ∧ M.length ≤ cM) := fun W hT j hj => by
    obtain ⟨g, c, e, k1, k2, k3⟩ := row_some hT (by omega)
    rw [eM] at e
    injection e with e1 e2 e3
    refine ⟨g, e1, ?_, by omega⟩
    rw [eM, e1] at hT
    exact row_cell hT (by unfold i64s; rw [List.getElem?_map, List.getElem?_eq_getElem hj, List.getD_eq_getElem?_getD, List.getElem?_eq_getElem hj]; rfl)
  rw [eM] at b5
  clear hz hp hP eM eR h hK
  go_enter Tryd.func55, Tryd.ntmps55
  go_wp2
  go_loopg [10] M.length (fun g j' wr => ∃ j : Nat, j + g = M.length ∧ j' = .int .i64 j ∧ Tu w0 w wr b s n (reds K css) K (M.drop j) M R F P)
  case atStart => exact ⟨0, by omega, rfl, HT0.out⟩
  case round =>
    obtain ⟨j, hj, rfl, htu⟩ := hrel
    have HJ : Hid (j + gk = M.length) := hj
    have HTu : Hid (Tu w0 w wr b s n (reds K css) K (M.drop j) M R F P) := htu
    clear hj htu
    by_cases hlt : j < M.length
    · obtain ⟨g, rfl, kM, hcM⟩ := HMc.out wr HTu.out.z.m j hlt
      obtain ⟨hf, hl, hlK, hlL, hset⟩ := HMf.out j hlt
      have hz := HTu.out.z
      rw [lefts_set_eq hset, inLs_set_eq (L' := K ++ (M.drop (j + 1) ++ [M.getD j 0])) (fun x => by rw [List.mem_append, List.mem_append, hset x])] at hz
      have HLT : Hid (j < M.length) := hlt
      generalize M.getD j 0 = l at *
      have HLd : Hid (M.drop (j + 1) = M.drop (j + 1)) := rfl
      generalize hL' : M.drop (j + 1) = L at *
      have HL' : Hid (M.drop (j + 1) = L) := hL'
      clear hL' HLd hset
      have hr := fmd_range hf
      have hwl : IntKind.i64.wrap (-l) = -l := by rw [IntKind.wrap_i64]; omega
      obtain ⟨i, hi⟩ : ∃ i : Nat, idx l = i := ⟨(idx l).toNat, by have := idx_range hf; omega⟩
      have hnl := idx_neg_lt hf HPl.out.2.2.ev hl
      obtain ⟨jj, hjj⟩ : ∃ jj : Nat, idx (-l) = jj := ⟨(idx (-l)).toNat, by have := idx_range (fmd_neg hf); omega⟩
      have hin : i < n := by omega
      have hjn : jj < n := by omega
      obtain ⟨p0, hp0⟩ : ∃ p0, F[jj]? = some p0 := ⟨_, List.getElem?_eq_getElem (by rw [HPl.out.1.len]; exact hjn)⟩
      obtain ⟨hp1, ks0, hch, hpw, hks⟩ := HPl.out.1.ch jj p0 hp0
      have hlit : litAt (jj : Int) = -l := by rw [← hjj, litAt_idx (fmd_neg hf)]
      rw [hlit] at hks
      obtain ⟨gI, cI, eI, i1, i2, i3⟩ := row_some hz.i (by omega)
      obtain ⟨gF, cF, eF, f1, f2, f3⟩ := row_some hz.f (by omega)
      obtain ⟨gP, cP, eP, p1, p2, p3⟩ := row_some hz.p (by have := HPl.out.1.pos; omega)
      have b1 := hz.c1
      have rI := hz.i
      rw [eI] at b1 rI
      have kI := row_cell rI (j := i) (x := .bool (decide (l ∈ K ++ (L ++ [l])))) (by rw [List.getElem?_map, inLs_at hf hi hin]; rfl)
      have zI := row_fz rI i
      have HI : Hid (idx l = i) := hi
      have HJJ : Hid (idx (-l) = jj) := hjj
      obtain ⟨z1, m1⟩ := hz.setI eI hin false
      rw [inLs_set (L' := K ++ L) hn hf hi false (by simp [hlL, hlK]) (fun x hx => by simp [hx])] at z1
      have hst : lfm (reds K css) (L ++ [l]) L ks0 = lefts (reds K css) (L ++ [l]) := lfm_start fun k hk hnk => by
        have hno : -l ∉ (reds K css).getD k [] := fun h2 => hnk ((hks k).2 h2)
        rw [cnt_put hlL, if_neg hno]; rfl
      have HP1 : Hid (Tb w0 w (wr.setCell ⟨gI, i, none⟩ (.bool false)) b s n (reds K css) K L l M R F P ks0) := ⟨by rw [hst]; exact z1, HTu.out.mo.trans m1⟩
      have HEP : Hid (s.P = .slice (some ⟨gP, 0, none⟩) P.length cP) := eP
      have HEF : Hid (s.F = .slice (some ⟨gF, 0, none⟩) n cF) := eF
      have HF0 : Hid (F[jj]? = some p0) := hp0
      have HCH : Hid (Ch P p0 ks0 ∧ ks0.Pairwise (· > ·) ∧ ∀ k, k ∈ ks0 ↔ -l ∈ (reds K css).getD k []) := ⟨hch, hpw, hks⟩
      have HL : Hid (l ∉ L ∧ fmd l = true) := ⟨hlL, hf⟩
      clear hz z1 m1 hst hch hpw hks hlit rI hp0 eI eF eP hnl hi hjj hl hlL hlK HTu
      generalize decide (l ∈ K ++ (L ++ [l])) = dl at *
      go_upto_region 3 with fail
      go_cut [] from 14 to 20 (fun wx => Tb w0 w wx b s n (reds K css) K L l M R F P ks0)
      case first =>
        go_region_law (go_simp; go_at_call 43; refine (index_any _ _).mono ?_; intro e w9 hh; rw [hh.1, hh.2, HI.out]; clear hh e w9; dsimp only)
        all_goals
          have HP2 : Hid (Tb w0 w (wr.setCell ⟨gI, i, none⟩ (.bool false)).drew b s n (reds K css) K L l M R F P ks0) := HP1.out.below (Below.refl _ _).drew
          go_wp2_with fail
          go_meet
          exact HP2.out
      case rest =>
      have HP2 : Hid (Tb w0 w wc b s n (reds K css) K L l M R F P ks0) := hcut
      clear hcut HP1 b1 kI zI kM
      generalize wc = w3 at *
      have b3 : w3.cell? ⟨b, 3, none⟩ = some s.F := HP2.out.z.c3
      have rF : w3.ownsRow w0.heap.size 21 1 s.F n (i32s (nats F)) := HP2.out.z.f
      rw [HEF.out] at b3 rF
      have kF := row_cell rF (j := jj) (x := .int .i32 (p0 : Int)) (by unfold i32s nats; rw [List.getElem?_map, List.getElem?_map, HF0.out]; rfl)
      clear rF
      go_upto_region 4 with fail
      go_cut [4] from 21 to 29 (fun p' wx => p' = .int .i32 (p0 : Int) ∧ Tb w0 w wx b s n (reds K css) K L l M R F P ks0)
      case first =>
        go_region_law (go_simp; go_at_call 43; refine (index_any _ _).mono ?_; intro e w9 hh; rw [hh.1, hh.2, HJJ.out]; clear hh e w9; dsimp only)
        all_goals
          have HP3 : Hid (Tb w0 w w3.drew b s n (reds K css) K L l M R F P ks0) := HP2.out.below (Below.refl _ _).drew
          go_wp2_with fail
          go_meet
          exact ⟨rfl, HP3.out⟩
      case rest =>
      obtain ⟨rfl, hcut⟩ := hcut
      have HP3 : Hid (Tb w0 w wc b s n (reds K css) K L l M R F P ks0) := hcut
      clear hcut HP2 b3 kF
      generalize wc = w4 at *
      go_wp2
      go_loopg [4] p0 (fun g p' wr => ∃ ks, p' = .int .i32 ((g : Nat) : Int) ∧ Ch P g ks ∧ ks.Pairwise (· > ·) ∧ (∀ k ∈ ks, -l ∈ (reds K css).getD k []) ∧ g < P.length ∧ Tb w0 w wr b s n (reds K css) K L l M R F P ks)
      case atStart => exact ⟨ks0, rfl, HCH.out.1, HCH.out.2.1, fun k hk => (HCH.out.2.2 k).1 hk, hp1, HP3.out⟩
      case round =>
        obtain ⟨ks, rfl, hch, hpw, hks, hgP, hpt⟩ := hrel
        have HT : Hid (Tb w0 w wr b s n (reds K css) K L l M R F P ks) := hpt
        clear hpt
        by_cases hg0 : 0 < gk
        · obtain ⟨k, q, r, g1, g2, rfl, g4⟩ := hch.inv hg0
          obtain ⟨hkX, -⟩ := HPl.out.1.num gk k q hg0 g1
          have hkl : -l ∈ (reds K css).getD k [] := hks k (by simp)
          have hkr : k ∉ r := fun h2 => Nat.lt_irrefl _ ((List.pairwise_cons.1 hpw).1 k h2)
          have hz := HT.out.z
          have b4 := hz.c4
          have b2 := hz.c2
          have rP := hz.p
          rw [HEP.out] at b4 rP
          obtain ⟨k1, k2⟩ := twp_at g1
          have x1 := row_cell rP k1
          have x2 := row_cell rP k2
          obtain ⟨gE, cE, eE, e1, e2, e3⟩ := row_some hz.e (by omega)
          have rE := hz.e
          rw [eE] at b2 rE
          have x3 := row_cell rE (j := k) (x := .int .i32 (cnt (L ++ [l]) ((reds K css).getD k []) : Int)) (by unfold i32s; rw [List.getElem?_map, lfm_at hkX (by simp)]; rfl)
          have x4 := row_fz rE k
          obtain ⟨z1, m1⟩ := hz.setE eE hkX (cnt L ((reds K css).getD k []) : Int)
          rw [lfm_step hkX hkr] at z1
          have hcp := cnt_put (c := (reds K css).getD k []) HL.out.1
          rw [if_pos hkl] at hcp
          have hpos := cnt_pos HL.out.1 hkl
          have hcl : cnt L ((reds K css).getD k []) ≤ 1073741824 := Nat.le_trans (cnt_le _ _) (HPl.out.2.2.len _ (getD_in hkX))
          have hX := HPl.out.2.2.num
          have HZ : Hid (Tb w0 w (wr.setCell ⟨gE, k, none⟩ (.int .i32 (cnt L ((reds K css).getD k []) : Int))) b s n (reds K css) K L l M R F P r) := ⟨z1, HT.out.mo.trans m1⟩
          have HR : Hid (Ch P q r ∧ r.Pairwise (· > ·) ∧ (∀ j ∈ r, -l ∈ (reds K css).getD j []) ∧ q < P.length) := ⟨g4, (List.pairwise_cons.1 hpw).2, fun j hj => hks j (List.mem_cons_of_mem _ hj), by omega⟩
          have HM : Hid (q < gk) := g2
          have hPP : P.length ≤ 2147483648 := HPl.out.2.1
          have HG1 : Hid (P[gk]? = some (k, q)) := g1
          clear hz z1 m1 rP rE k1 k2 hch hpw hks g1 g4 hkl hkr eE HT
          generalize cnt (L ++ [l]) ((reds K css).getD k []) = c' at *
          generalize cnt L ((reds K css).getD k []) = c at *
          obtain rfl : c = c' + 1 := by omega
          have hwc2 : IntKind.i32.wrap ((c' : Int) + 1) = ((c' + 1 : Nat) : Int) := by rw [wrap_i32']; omega
          clear hcp hpos
          have ecc : ((c' + 1 : Nat) : Int) = (c' : Int) + 1 := by omega
          rw [ecc] at HZ hwc2
          clear ecc
          generalize hNX : (reds K css).length = N at *
          generalize hPn : P.length = Pn at *
          have HPn : Hid (P.length = Pn) := hPn
          clear hNX hPn
          have g1' : gk * 2 + 1 < 4294967297 := by omega
          go_upto_region 7 with fail
          go_region_law fail
          all_goals
            have HZ5 : Hid (Tb w0 w (wr.setCell ⟨gE, k, none⟩ (.int .i32 ((c' : Int) + 1))).drew b s n (reds K css) K L l M R F P r) := HZ.out.below (Below.refl _ _).drew
            clear HZ x1 x2 x3 x4 b4 b2
            generalize (wr.setCell ⟨gE, k, none⟩ (.int .i32 ((c' : Int) + 1))).drew = w5 at *
            have z5 := HZ5.out.z
            have u4 := z5.c4
            have rP := z5.p
            rw [HEP.out] at u4 rP
            rw [HPn.out] at rP
            have x5 := row_cell rP (twp_at HG1.out).2
            clear rP z5
            go_wp2
            go_roundg q
            case measure => exact HM.out
            case rel => exact ⟨r, rfl, HR.out.1, HR.out.2.1, HR.out.2.2.1, HR.out.2.2.2, HZ5.out⟩
        · obtain rfl : gk = 0 := by omega
          have hk0 := hch.zero
          subst hk0
          have HFn : Hid (Tu w0 w wr b s n (reds K css) K L M R F P) := by
            have z := HT.out.z
            rw [lfm_end] at z
            exact ⟨z, HT.out.mo⟩
          clear hch hks hgP
          go_wp2
          go_roundg (M.length - (j + 1))
          case measure => have := HJ.out; have := HLT.out; omega
          case rel => exact ⟨j + 1, by have := HLT.out; omega, by go_num, by rw [HL'.out]; exact HFn.out⟩
    · have hje : j = M.length := by have := HJ.out; omega
      have HTu2 : Hid (Tu w0 w wr b s n (reds K css) K [] M R F P) := by
        have := HTu.out
        rw [hje, List.drop_length] at this
        exact this
      clear HTu hje
      have HCl : Hid (∀ (W : World) (s' : Sy), Oz w0.heap.size W b s' n (reds K css).length (inLs n (K ++ [])) (lefts (reds K css) []) F P [] [] → s'.C = s.C → Mo w (s.own b) W (s'.own b) → ∃ s', Ow w0 W b s' n css K [] [] ∧ s'.C = s.C ∧ Mo w (s.own b) W (s'.own b)) := fun W s' z2 hC mo => by
        rw [reds_len] at z2
        exact ⟨s', ⟨Mo.bel HW.out.bel (fun k hk => (HW.out.lt k hk).1) mo, HW.out.fit, List.nodup_nil, by simp, F, P, z2, HPl.out.1, HPl.out.2.1⟩, hC, mo⟩
      have e5 : cut0 s.M = .slice aM 0 cM := by rw [HEM.out.1]; rfl
      have e6 : cut0 s.R = .slice aR 0 cR := by rw [HEM.out.2]; rfl
      have HFinA : Hid (∃ s', Ow w0 ((wr.setCell ⟨b, 5, none⟩ (.slice aM 0 cM)).setCell ⟨b, 6, none⟩ (.slice aR 0 cR)).drew b s' n css K [] [] ∧ s'.C = s.C ∧ Mo w (s.own b) ((wr.setCell ⟨b, 5, none⟩ (.slice aM 0 cM)).setCell ⟨b, 6, none⟩ (.slice aR 0 cR)).drew (s'.own b)) := by
        obtain ⟨zA, mA⟩ := HTu2.out.z.cutM
        obtain ⟨zB, mB⟩ := zA.cutR
        have mo := (HTu2.out.mo.trans mA).trans mB
        simp only [e5, e6] at zB mo
        exact HCl.out _ _ (zB.below (Below.refl _ _).drew) rfl (mo.trans (Mo.below (Below.refl _ _).drew))
      have HFinB : Hid (∃ s', Ow w0 ((wr.setCell ⟨b, 6, none⟩ (.slice aR 0 cR)).setCell ⟨b, 5, none⟩ (.slice aM 0 cM)).drew b s' n css K [] [] ∧ s'.C = s.C ∧ Mo w (s.own b) ((wr.setCell ⟨b, 6, none⟩ (.slice aR 0 cR)).setCell ⟨b, 5, none⟩ (.slice aM 0 cM)).drew (s'.own b)) := by
        obtain ⟨zA, mA⟩ := HTu2.out.z.cutR
        obtain ⟨zB, mB⟩ := zA.cutM
        have mo := (HTu2.out.mo.trans mA).trans mB
        simp only [e5, e6] at zB mo
        exact HCl.out _ _ (zB.below (Below.refl _ _).drew) rfl (mo.trans (Mo.below (Below.refl _ _).drew))
      have y5 := HTu2.out.z.c5
      have y6 := HTu2.out.z.c6
      have f5 := HTu2.out.z.fz 5
      have f6 := HTu2.out.z.fz 6
      rw [HEM.out.1] at y5
      rw [HEM.out.2] at y6
      have hRl : R.length ≤ R.length := Nat.le_refl _
      clear e5 e6 HCl
      go_upto_region 9 with fail
      go_region_law fail
      all_goals
        go_wp2
        go_end0
        first
        | exact ⟨rfl, HFinA.out⟩
        | exact ⟨rfl, HFinB.out⟩
end Go.Proofs.YtgaojmcmpdjfmaaDoor
