/-
  DimacsLoose, walked.
  KEEP: set on app at below new trans refl start ap kept rd rds mono
-/
import Derived.Test.YthdogkafmhnffaaDoorDimacsBack
import Derived.Test.YthdogkafmhnffaaDoorRWr
import Derived.Test.YthdogkafmhnffaaDoorRdLoose
import Derived.Deep.CutRange
set_option linter.unusedSimpArgs false
set_option linter.unusedVariables false
namespace Go.Proofs.YthdogkafmhnffaaDoor
open Go Go.RowKit
def GapS (e : Ending) : Prop := ∃ g : List UInt8, g ∈ gapsL ∧ e = .returned (.string ⟨g.toArray⟩)
set_option maxHeartbeats 1600000 in
theorem gap_any (z : Int) (w : World) :
    Calls Tryd.prog 19 #[.int .i64 z] w fun e w' => GapS e ∧ w' = w := by
  have HG : Hid (∀ (g : List UInt8) (e : Ending), g ∈ gapsL → e = .returned (.string ⟨g.toArray⟩) → GapS e) := fun g e h1 h2 => ⟨g, h1, h2⟩
  generalize hGS : GapS = GS at *
  clear hGS
  have ht1 : -8 < z.tmod 8 := by have := Int.tmod_lt_of_pos (-z) (by decide : (0 : Int) < 8); rw [Int.neg_tmod] at this; omega
  have ht2 : z.tmod 8 < 8 := Int.tmod_lt_of_pos z (by decide)
  generalize hT : z.tmod 8 = t at *
  have hw : -9223372036854775808 ≤ t + 8 ∧ t + 8 ≤ 9223372036854775807 := by omega
  have cs : (t + 8).tmod 8 = 0 ∨ (t + 8).tmod 8 = 1 ∨ (t + 8).tmod 8 = 2 ∨ (t + 8).tmod 8 = 3 ∨ (t + 8).tmod 8 = 4 ∨ (t + 8).tmod 8 = 5 ∨ (t + 8).tmod 8 = 6 ∨ (t + 8).tmod 8 = 7 := by
    rw [Int.tmod_eq_emod_of_nonneg (by omega)]; omega
  have ce : (t + 8).tmod 8 = (t + 8) % 8 := Int.tmod_eq_emod_of_nonneg (by omega)
  rcases cs with h | h | h | h | h | h | h | h
  all_goals
    rw [ce] at h
    clear ce
    go_enter Tryd.func19, Tryd.ntmps19
    go_wp2
    go_ret
    refine ⟨HG.out _ _ ?_ rfl, rfl⟩
    decide

theorem allW_len : ∀ css : List (List Int), (allW css).length = css.length + (css.map List.length).sum
  | [] => rfl
  | c :: r => by
    have := allW_len r
    simp only [allW, List.flatMap_cons, List.length_append, List.length_map, List.length_cons, List.length_nil, List.map_cons, List.sum_cons] at this ⊢
    omega
theorem allW_more (css : List (List Int)) (k : Nat) (h : k < css.length) : allW (css.take (k + 1)) = allW (css.take k) ++ ((css.getD k []).map Lib.itoa ++ [[48]]) := by
  rw [take_succ_getD css [] k h]; simp [allW]
theorem allW_pre (css : List (List Int)) (k : Nat) (h : k < css.length) : (allW (css.take k)).length + ((css.getD k []).length + 1) ≤ (allW css).length := by
  have e : allW css = allW (css.take (k + 1)) ++ allW (css.drop (k + 1)) := by
    unfold allW; rw [← List.flatMap_append, List.take_append_drop]
  rw [e, allW_more css k h]
  simp only [List.length_append, List.length_map, List.length_cons, List.length_nil]
  omega
theorem rend_len : ∀ {ts : List (List UInt8 × List UInt8)}, (∀ t ∈ ts, t.1.length ≤ 22 ∧ t.2 ∈ gapsL) → (rend ts).length ≤ 34 * ts.length
  | [], _ => Nat.le_refl _
  | t :: r, h => by
    have ih := rend_len (ts := r) (fun x hx => h x (List.mem_cons_of_mem _ hx))
    have h1 := h t List.mem_cons_self
    have h2 : t.2.length ≤ 12 := by
      have := h1.2
      simp only [gapsL, List.mem_cons, List.not_mem_nil, or_false] at this
      rcases this with e | e | e | e | e | e | e | e <;> rw [e] <;> decide
    simp only [rend, List.flatMap_cons, List.length_append, List.length_cons] at ih ⊢
    omega
theorem rend_snoc (ts : List (List UInt8 × List UInt8)) (a g : List UInt8) : rend (ts ++ [(a, g)]) = rend ts ++ a ++ g := by simp [rend]
theorem gaps_ascii {g : List UInt8} (h : g ∈ gapsL) : ∀ b ∈ g, b.toNat < 128 := by
  simp only [gapsL, List.mem_cons, List.not_mem_nil, or_false] at h
  rcases h with e | e | e | e | e | e | e | e <;> rw [e] <;> decide
theorem rend_ascii {ts : List (List UInt8 × List UInt8)} {css : List (List Int)} (ht : ts.map Prod.fst = allW css) (hg : ∀ t ∈ ts, t.2 ∈ gapsL) : ∀ b ∈ rend ts, b.toNat < 128 := by
  intro b hb
  simp only [rend, List.mem_flatMap, List.mem_append] at hb
  obtain ⟨t, htm, h | h⟩ := hb
  · have : t.1 ∈ allW css := by rw [← ht]; exact List.mem_map_of_mem htm
    simp only [allW, List.mem_flatMap, List.mem_append, List.mem_map, List.mem_singleton] at this
    obtain ⟨c, _, ⟨z, _, e⟩ | e⟩ := this
    · rw [← e] at h; exact itoa_ascii z b h
    · rw [e] at h
      obtain rfl := List.mem_singleton.1 h
      decide
  · exact gaps_ascii (hg t htm) b h
theorem looseHead_ascii (n : Int) (k : Nat) : ∀ b ∈ looseHead n k, b.toNat < 128 := by
  intro b hb
  unfold looseHead at hb
  simp only [List.mem_append] at hb
  rcases hb with (((h | h) | h) | h) | h
  · revert b; decide
  · exact itoa_ascii _ b h
  · obtain rfl := List.mem_singleton.1 h; decide
  · exact itoa_ascii _ b h
  · revert b; decide
end Go.Proofs.YthdogkafmhnffaaDoor
namespace Go.Proofs.YthdogkafmhnffaaDoor.dimacsLoose
open Go Go.RowKit

set_option maxHeartbeats 6400000 in
set_option maxRecDepth 100000 in
theorem walk (n : Int) (s : Value) (css : List (List Int)) (gv : Value) (gs : List Int) (w : World) (_ : (Lit.int .i64 n).wf = true) (hr : Rds w s css) (hg : Rd w gv gs) (hb : css.length + (css.map List.length).sum ≤ 1048576) (hb2 : gs.length ≤ 1048576) (htab : TensY w) :
    Calls Tryd.prog 7 #[.agg #[.int .i64 n, s], gv] w fun e w' => e = .returned (.bool true) ∧ RowKit.Below w.heap.size w w' := by
  have hl := hr.len
  have h8 := rds_each hr
  have HX : Hid (Bx w n s css (w.alloc (.cells #[.int .i64 n, s] 25))) := Bx.new hr _
  obtain ⟨a, c, rfl, hc, hm, _⟩ := hr.form
  have H8 : Hid (∀ z ∈ css, z.length * 8 ≤ 140737488351232) := h8
  have HT0 : Hid (TensY w) := htab
  have HGs : Hid (Rd w gv gs) := hg
  obtain ⟨ga, gc, rfl, _⟩ := hg.form
  have HAll : Hid ((allW css).length ≤ 1048576) := by show _ ≤ _; rw [allW_len]; exact hb
  have HLc : Hid (css.length ≤ 1048576) := by show _ ≤ _; omega
  have hcl : css.length ≤ 1048576 := by omega
  clear hr htab h8 hb hg
  cases hf : frm n css
  case false =>
    have HS : Hid (∀ W u, Rds W u css → Calls Tryd.prog 17 #[.agg #[.int .i64 n, u]] W fun e w' => e = .returned (.bool false) ∧ Below W.heap.size W w') := fun W u h1 => by rw [← hf]; exact shaped_any n u css W h1
    go_enter Tryd.func7, Tryd.ntmps7
    go_wp2_with fail
    refine (HS.out _ _ HX.out.rd).mono ?_
    rintro e w1 ⟨rfl, bel1⟩
    have HX1 : Hid (Bx w n (.slice a css.length c) css w1) := HX.out.on bel1
    clear HX bel1
    go_wp2
    go_ret
    exact ⟨rfl, HX1.out.bel⟩
  have HF : Hid (frm n css = true) := hf
  have hnr : 0 ≤ n ∧ n ≤ 1048576 := by
    have := hf; simp only [frm, Bool.and_eq_true, decide_eq_true_eq] at this; exact this.1
  have HS : Hid (∀ W u, Rds W u css → Calls Tryd.prog 17 #[.agg #[.int .i64 n, u]] W fun e w' => e = .returned (.bool true) ∧ Below W.heap.size W w') := fun W u h1 => by rw [← hf]; exact shaped_any n u css W h1
  clear hf
  go_enter Tryd.func7, Tryd.ntmps7
  go_wp2_with fail
  refine (HS.out _ _ HX.out.rd).mono ?_
  rintro e w1 ⟨rfl, bel1⟩
  have HX1 : Hid (Bx w n (.slice a css.length c) css w1) := HX.out.on bel1
  have c0 := HX1.out.c0
  have c1 := HX1.out.c1
  have HT1 : Hid (TensY w1) := HT0.out.below HX1.out.bel
  have HG1 : Hid (Rd w1 (.slice ga gs.length gc) gs) := HGs.out.below HX1.out.bel
  clear HX bel1 HS
  have HSt : Hid (∀ W, Below w1.heap.size w1 W → Below w1.heap.size w1 W ∧ W.cell? ⟨w.heap.size, 0, none⟩ = some (.int .i64 n) ∧ W.cell? ⟨w.heap.size, 1, none⟩ = some (.slice a css.length c)) := fun W h => ⟨h, (HX1.out.on h).c0, (HX1.out.on h).c1⟩
  have HI : Hid (∀ (z : Int), -9223372036854775808 ≤ z → z ≤ 9223372036854775807 → ∀ W, Below w1.heap.size w1 W → Calls Tryd.prog 18 #[.int .i64 z] W fun e w' => e = .returned (.string ⟨(Lib.itoa z).toArray⟩) ∧ Below W.heap.size W w') := fun z h0 h1 W h => itoa_any z h0 h1 W (HT1.out.below h)
  have hni := Lib.itoa_length_le n (by omega) (by omega)
  have hci := Lib.itoa_length_le (css.length : Int) (by omega) (by omega)
  obtain ⟨S1, hS1⟩ : ∃ S, S = [99, 32, 112, 32, 99, 110, 102, 32, 49, 32, 49, 10, 10, 32, 9, 112, 9, 32, 99, 110, 102, 32, 32] ++ Lib.itoa n := ⟨_, rfl⟩
  obtain ⟨S2, hS2⟩ : ∃ S, S = S1 ++ [32] := ⟨_, rfl⟩
  obtain ⟨S3, hS3⟩ : ∃ S, S = S2 ++ Lib.itoa css.length := ⟨_, rfl⟩
  have l1 : S1.length = 23 + (Lib.itoa n).length := by rw [hS1]; simp; omega
  have l2 : S2.length = S1.length + 1 := by rw [hS2]; simp
  have l3 : S3.length = S2.length + (Lib.itoa (css.length : Int)).length := by rw [hS3]; simp
  have k1 := cat_run _ _ _ hS1 (by simp; omega)
  have k2 := cat_run _ _ _ hS2 (by simp; omega)
  have k3 := cat_run _ _ _ hS3 (by omega)
  have k4 := cat_run S3 [32, 10] (looseHead n css.length) (by rw [hS3, hS2, hS1]; rfl) (by simp; omega)
  have HHl : Hid ((looseHead n css.length).length ≤ 100) := by
    have : looseHead n css.length = S3 ++ [32, 10] := by rw [hS3, hS2, hS1]; rfl
    show _ ≤ _; rw [this]; simp; omega
  clear hS1 hS2 hS3 l1 l2 l3 hni hci
  go_upto_region 3 with fail
  go_cut [5] from 16 to 26 (fun t wx => t = .string ⟨(looseHead n css.length).toArray⟩ ∧ Below w1.heap.size w1 wx)
  case first =>
    go_region_held (fun W' => Below w1.heap.size w1 W' ∧ W'.cell? ⟨w.heap.size, 0, none⟩ = some (.int .i64 n) ∧ W'.cell? ⟨w.heap.size, 1, none⟩ = some (.slice a css.length c)) (first | exact HSt.out _ (Below.refl _ _).drew | exact HSt.out _ bT | exact HSt.out _ bF) (first
      | (go_at_call_has 18 (Value.int IntKind.i64 n); refine (HI.out n (by omega) (by omega) _ (by first | exact bF | exact (Below.refl _ _).drew)).mono ?_; rintro e wT ⟨rfl, belT⟩; have bT : Below w1.heap.size w1 wT := Below.step (by first | exact bF | exact (Below.refl _ _).drew) belT)
      | (go_at_call_has 18 (Value.int IntKind.i64 css.length); refine (HI.out css.length (by omega) (by omega) _ (by first | exact bT | exact (Below.refl _ _).drew)).mono ?_; rintro e wF ⟨rfl, belF⟩; have bF : Below w1.heap.size w1 wF := Below.step (by first | exact bT | exact (Below.refl _ _).drew) belF))
    all_goals
      go_wp2_with fail
      go_meet
      exact ⟨rfl, by first | exact bF | exact bT⟩
  case rest =>
  obtain ⟨rfl, bel2⟩ := hcut
  generalize wc = w2 at *
  clear k1 k2 k3 k4 c0 c1 HSt
  go_wp2
  go_loopg [5, 6, 7] css.length (fun g u kk i wr => ∃ (k : Nat) (ts : List (List UInt8 × List UInt8)), k + g = css.length ∧ i = .int .i64 k ∧ kk = .int .i64 ts.length ∧ u = .string ⟨(looseHead n css.length ++ rend ts).toArray⟩ ∧ Hid (ts.map Prod.fst = allW (css.take k)) ∧ Hid (∀ t ∈ ts, t.1.length ≤ 22 ∧ t.2 ∈ gapsL) ∧ Hid (Below w1.heap.size w1 wr))
  case atStart => exact ⟨0, [], by omega, rfl, rfl, by simp [rend], by show _ = _; simp [allW], fun t ht => (by cases ht), bel2⟩
  case round =>
    clear bel2
    obtain ⟨k, ts, hk, rfl, rfl, rfl, HTs, HGp, HBl⟩ := hrel
    have HK : Hid (k + gk = css.length) := hk
    have c1x := (HX1.out.on HBl.out).c1
    by_cases hlt : k < css.length
    · obtain ⟨b, off, uc, rfl, hck1, hrd⟩ := HX1.out.at hlt
      have hck : wr.cell? ⟨b, off + k, none⟩ = some uc := (HBl.out.cell (p := ⟨b, off + k, none⟩) (World.block_lt_of_cell? w1 _ hck1)).trans hck1
      have HPre : Hid ((allW (css.take k)).length + ((css.getD k []).length + 1) ≤ 1048576) := Nat.le_trans (allW_pre css k hlt) HAll.out
      have HM : Hid (allW (css.take (k + 1)) = allW (css.take k) ++ ((css.getD k []).map Lib.itoa ++ [[48]])) := allW_more css k hlt
      have HZ : Hid (∀ j, j < (css.getD k []).length → fmd ((css.getD k []).getD j 0) = true) := fun j hj => by
        have h1 := HF.out
        simp only [frm, Bool.and_eq_true] at h1
        have h2 := List.all_eq_true.1 h1.2 _ (getD_mem' (d := []) hlt)
        have h3 := List.all_eq_true.1 h2 _ (getD_mem' (d := 0) hj)
        simp only [Bool.and_eq_true] at h3
        exact h3.1
      obtain ⟨ac, cc, rfl, hcc, hcm, _⟩ := hrd.form
      have HR : Hid (Rd w1 (.slice ac (css.getD k []).length cc) (css.getD k [])) := hrd
      have HC1 : Hid (w1.cell? ⟨b, off + k, none⟩ = some (.slice ac (css.getD k []).length cc)) := hck1
      clear hk hrd hck1
      generalize css.getD k [] = zs at *
      have hzl := HR.out.len
      go_wp2
      go_loopg [5, 6, 8] (zs.length + 1) (fun g u kk jj wq => ∃ (j : Nat) (ts : List (List UInt8 × List UInt8)), j + g = zs.length + 1 ∧ jj = .int .i64 j ∧ kk = .int .i64 ts.length ∧ u = .string ⟨(looseHead n css.length ++ rend ts).toArray⟩ ∧ Hid (ts.map Prod.fst = allW (css.take k) ++ (zs.map Lib.itoa ++ [[48]]).take j) ∧ Hid (∀ t ∈ ts, t.1.length ≤ 22 ∧ t.2 ∈ gapsL) ∧ Hid (Below w1.heap.size w1 wq))
      case atStart => exact ⟨0, ts, by omega, rfl, rfl, rfl, by show _ = _; rw [HTs.out]; simp, HGp, HBl⟩
      case round =>
        clear hck c1x HTs HGp HBl
        obtain ⟨j, ts2, hj, rfl, rfl, rfl, HTs2, HGp2, HBl2⟩ := hrel
        have HJ : Hid (j + gk = zs.length + 1) := hj
        have c1x := (HX1.out.on HBl2.out).c1
        have hck : wr.cell? ⟨b, off + k, none⟩ = some (.slice ac zs.length cc) := (HBl2.out.cell (p := ⟨b, off + k, none⟩) (World.block_lt_of_cell? w1 _ HC1.out)).trans HC1.out
        have htl : ts2.length ≤ 1048576 := by
          have h1 := congrArg List.length HTs2.out
          have h2 := HPre.out
          simp only [List.length_map, List.length_append, List.length_take, List.length_cons, List.length_nil] at h1
          omega
        obtain ⟨T, hT⟩ : ∃ T, T = looseHead n css.length ++ rend ts2 := ⟨_, rfl⟩
        have hTl : T.length ≤ 35700000 := by
          rw [hT, List.length_append]
          have := rend_len HGp2.out
          have := HHl.out
          omega
        rw [← hT]
        have HT : Hid (T = looseHead n css.length ++ rend ts2) := hT
        clear hT
        by_cases hjt : j ≤ zs.length
        · by_cases hjl : j < zs.length
          · obtain ⟨a', c', e', _, _, hcell⟩ := (HR.out.below HBl2.out).form
            have e3 : a' = ac ∧ c' = cc := by injection e' with q1 q2 q3; exact ⟨q1.symm, q3.symm⟩
            obtain ⟨rfl, rfl⟩ := e3
            obtain ⟨b2, off2, rfl, hcj⟩ := hcell j hjl
            have hfm := fmd_range (HZ.out j hjl)
            have HWl : Hid ((Lib.itoa (zs.getD j 0)).length ≤ 22) := by show _ ≤ _; have := Lib.itoa_length_le (zs.getD j 0) (by omega) (by omega); omega
            have HTk : Hid ((zs.map Lib.itoa ++ [[48]]).take (j + 1) = (zs.map Lib.itoa ++ [[48]]).take j ++ [Lib.itoa (zs.getD j 0)]) := by
              show _ = _
              rw [List.take_succ_eq_append_getElem (by simp; omega)]
              congr 2
              rw [List.getElem_append_left (by simpa using hjl)]
              simp [List.getD_eq_getElem?_getD, hjl]
            clear hj hcell e'
            generalize zs.getD j 0 = y0 at *
            have HNew : Hid (∀ g : List UInt8, g ∈ gapsL → (ts2 ++ [(Lib.itoa y0, g)]).map Prod.fst = allW (css.take k) ++ (zs.map Lib.itoa ++ [[48]]).take (j + 1) ∧ (∀ t ∈ ts2 ++ [(Lib.itoa y0, g)], t.1.length ≤ 22 ∧ t.2 ∈ gapsL) ∧ looseHead n css.length ++ rend (ts2 ++ [(Lib.itoa y0, g)]) = (T ++ Lib.itoa y0) ++ g) := fun g hg => by
              refine ⟨?_, fun t ht => ?_, ?_⟩
              · rw [List.map_append, HTs2.out, HTk.out, List.append_assoc]; rfl
              · rcases List.mem_append.1 ht with h | h
                · exact HGp2.out t h
                · obtain rfl := List.mem_singleton.1 h
                  exact ⟨HWl.out, hg⟩
              · rw [rend_snoc, HT.out]; simp [List.append_assoc]
            obtain ⟨A, hA⟩ : ∃ A, A = T ++ Lib.itoa y0 := ⟨_, rfl⟩
            have lA : A.length ≤ 36000000 := by rw [hA, List.length_append]; have := HWl.out; omega
            have HA : Hid (A = T ++ Lib.itoa y0) := hA
            have kA := cat_run T (Lib.itoa y0) A hA (by have := HWl.out; omega)
            by_cases hgk : ts2.length < gs.length
            · obtain ⟨a', c', e', _, _, gcell⟩ := (HG1.out.below HBl2.out).form
              have e3 : a' = ga ∧ c' = gc := by injection e' with q1 q2 q3; exact ⟨q1.symm, q3.symm⟩
              obtain ⟨rfl, rfl⟩ := e3
              obtain ⟨b3, off3, rfl, hcg⟩ := gcell ts2.length hgk
              clear gcell e' hA
              generalize gs.getD ts2.length 0 = y at *
              go_wp2_with (go_at_call 18; refine (HI.out y0 (by omega) (by omega) _ HBl2.out).mono ?_; rintro e wI ⟨rfl, belI⟩; have HBI : Hid (Below w1.heap.size w1 wI) := Below.step HBl2.out belI; have hcg2 := (belI.cell (p := ⟨b3, off3 + ts2.length, none⟩) (World.block_lt_of_cell? _ _ hcg)).trans hcg; clear belI)
              refine (gap_any y _).mono ?_
              rintro e wg ⟨⟨g, hgm, rfl⟩, rfl⟩
              have hgl : g.length ≤ 12 := by
                have := hgm
                simp only [gapsL, List.mem_cons, List.not_mem_nil, or_false] at this
                rcases this with e | e | e | e | e | e | e | e <;> rw [e] <;> decide
              have kB := cat_run A g (A ++ g) rfl (by omega)
              obtain ⟨n1, n2, n3⟩ := HNew.out g hgm
              have N1 : Hid ((ts2 ++ [(Lib.itoa y0, g)]).map Prod.fst = allW (css.take k) ++ (zs.map Lib.itoa ++ [[48]]).take (j + 1)) := n1
              have N2 : Hid (∀ t ∈ ts2 ++ [(Lib.itoa y0, g)], t.1.length ≤ 22 ∧ t.2 ∈ gapsL) := n2
              have N3 : Hid (looseHead n css.length ++ rend (ts2 ++ [(Lib.itoa y0, g)]) = A ++ g) := by rw [HA.out]; exact n3
              clear n1 n2 n3 hgm
              go_wp2
              go_roundg (gk - 1)
              case measure => have := HJ.out; omega
              case rel => exact ⟨j + 1, ts2 ++ [(Lib.itoa y0, g)], by have := HJ.out; omega, by go_num, by rw [List.length_append]; rfl, by rw [N3.out], N1, N2, HBI⟩
            · obtain ⟨n1, n2, n3⟩ := HNew.out [32] (by decide)
              have kB := cat_run A [32] (A ++ [32]) rfl (by simp; omega)
              have N1 : Hid ((ts2 ++ [(Lib.itoa y0, [32])]).map Prod.fst = allW (css.take k) ++ (zs.map Lib.itoa ++ [[48]]).take (j + 1)) := n1
              have N2 : Hid (∀ t ∈ ts2 ++ [(Lib.itoa y0, [32])], t.1.length ≤ 22 ∧ t.2 ∈ gapsL) := n2
              have N3 : Hid (looseHead n css.length ++ rend (ts2 ++ [(Lib.itoa y0, [32])]) = A ++ [32]) := by rw [HA.out]; exact n3
              clear n1 n2 n3 hA
              go_wp2_with (go_at_call 18; refine (HI.out y0 (by omega) (by omega) _ HBl2.out).mono ?_; rintro e wI ⟨rfl, belI⟩; have HBI : Hid (Below w1.heap.size w1 wI) := Below.step HBl2.out belI; clear belI)
              go_roundg (gk - 1)
              case measure => have := HJ.out; omega
              case rel => exact ⟨j + 1, ts2 ++ [(Lib.itoa y0, [32])], by have := HJ.out; omega, by go_num, by rw [List.length_append]; rfl, by rw [N3.out], N1, N2, HBI⟩
          · obtain rfl : j = zs.length := by omega
            have HWl : Hid (([48] : List UInt8).length ≤ 22) := by show _ ≤ _; decide
            have HTk : Hid ((zs.map Lib.itoa ++ [[48]]).take (zs.length + 1) = (zs.map Lib.itoa ++ [[48]]).take zs.length ++ [[48]]) := by
              show _ = _
              rw [List.take_succ_eq_append_getElem (by simp)]
              congr 2
              rw [List.getElem_append_right (by simp)]
              simp
            clear hj
            have HNew : Hid (∀ g : List UInt8, g ∈ gapsL → (ts2 ++ [(([48] : List UInt8), g)]).map Prod.fst = allW (css.take k) ++ (zs.map Lib.itoa ++ [[48]]).take (zs.length + 1) ∧ (∀ t ∈ ts2 ++ [(([48] : List UInt8), g)], t.1.length ≤ 22 ∧ t.2 ∈ gapsL) ∧ looseHead n css.length ++ rend (ts2 ++ [(([48] : List UInt8), g)]) = (T ++ ([48] : List UInt8)) ++ g) := fun g hg => by
              refine ⟨?_, fun t ht => ?_, ?_⟩
              · rw [List.map_append, HTs2.out, HTk.out, List.append_assoc]; rfl
              · rcases List.mem_append.1 ht with h | h
                · exact HGp2.out t h
                · obtain rfl := List.mem_singleton.1 h
                  exact ⟨HWl.out, hg⟩
              · rw [rend_snoc, HT.out]; simp [List.append_assoc]
            obtain ⟨A, hA⟩ : ∃ A, A = T ++ ([48] : List UInt8) := ⟨_, rfl⟩
            have lA : A.length ≤ 36000000 := by rw [hA, List.length_append]; have := HWl.out; omega
            have HA : Hid (A = T ++ ([48] : List UInt8)) := hA
            have kA := cat_run T (([48] : List UInt8)) A hA (by have := HWl.out; omega)
            by_cases hgk : ts2.length < gs.length
            · obtain ⟨a', c', e', _, _, gcell⟩ := (HG1.out.below HBl2.out).form
              have e3 : a' = ga ∧ c' = gc := by injection e' with q1 q2 q3; exact ⟨q1.symm, q3.symm⟩
              obtain ⟨rfl, rfl⟩ := e3
              obtain ⟨b3, off3, rfl, hcg⟩ := gcell ts2.length hgk
              clear gcell e' hA
              generalize gs.getD ts2.length 0 = y at *
              go_wp2_with fail
              refine (gap_any y _).mono ?_
              rintro e wg ⟨⟨g, hgm, rfl⟩, rfl⟩
              have hgl : g.length ≤ 12 := by
                have := hgm
                simp only [gapsL, List.mem_cons, List.not_mem_nil, or_false] at this
                rcases this with e | e | e | e | e | e | e | e <;> rw [e] <;> decide
              have kB := cat_run A g (A ++ g) rfl (by omega)
              obtain ⟨n1, n2, n3⟩ := HNew.out g hgm
              have N1 : Hid ((ts2 ++ [(([48] : List UInt8), g)]).map Prod.fst = allW (css.take k) ++ (zs.map Lib.itoa ++ [[48]]).take (zs.length + 1)) := n1
              have N2 : Hid (∀ t ∈ ts2 ++ [(([48] : List UInt8), g)], t.1.length ≤ 22 ∧ t.2 ∈ gapsL) := n2
              have N3 : Hid (looseHead n css.length ++ rend (ts2 ++ [(([48] : List UInt8), g)]) = A ++ g) := by rw [HA.out]; exact n3
              clear n1 n2 n3 hgm
              go_wp2
              go_roundg (gk - 1)
              case measure => have := HJ.out; omega
              case rel => exact ⟨zs.length + 1, ts2 ++ [(([48] : List UInt8), g)], by have := HJ.out; omega, by go_num, by rw [List.length_append]; rfl, by rw [N3.out], N1, N2, HBl2⟩
            · obtain ⟨n1, n2, n3⟩ := HNew.out [32] (by decide)
              have kB := cat_run A [32] (A ++ [32]) rfl (by simp; omega)
              have N1 : Hid ((ts2 ++ [(([48] : List UInt8), [32])]).map Prod.fst = allW (css.take k) ++ (zs.map Lib.itoa ++ [[48]]).take (zs.length + 1)) := n1
              have N2 : Hid (∀ t ∈ ts2 ++ [(([48] : List UInt8), [32])], t.1.length ≤ 22 ∧ t.2 ∈ gapsL) := n2
              have N3 : Hid (looseHead n css.length ++ rend (ts2 ++ [(([48] : List UInt8), [32])]) = A ++ [32]) := by rw [HA.out]; exact n3
              clear n1 n2 n3 hA
              go_wp2
              go_roundg (gk - 1)
              case measure => have := HJ.out; omega
              case rel => exact ⟨zs.length + 1, ts2 ++ [(([48] : List UInt8), [32])], by have := HJ.out; omega, by go_num, by rw [List.length_append]; rfl, by rw [N3.out], N1, N2, HBl2⟩
        · obtain rfl : j = zs.length + 1 := by omega
          have HE : Hid (ts2.map Prod.fst = allW (css.take (k + 1))) := by
            show _ = _
            rw [HTs2.out, HM.out, List.take_of_length_le (l := zs.map Lib.itoa ++ [[48]]) (by simp)]
          have HT2 : Hid (T = looseHead n css.length ++ rend ts2) := HT
          clear hj
          go_wp2
          go_roundg (css.length - k - 1)
          case measure => have := HK.out; omega
          case rel => exact ⟨k + 1, ts2, by have := HK.out; omega, by go_num, rfl, by rw [HT2.out], HE, HGp2, HBl2⟩
    · obtain rfl : k = css.length := by omega
      have HTs2 : Hid (ts.map Prod.fst = allW css) := by have := HTs.out; rw [List.take_length] at this; exact this
      have HG2 : Hid (∀ t ∈ ts, t.2 ∈ gapsL) := fun t ht => (HGp.out t ht).2
      have HRd : Hid (∀ W, Calls Tryd.prog 9 #[.string ⟨(looseHead n css.length ++ rend ts).toArray⟩] W fun e w' => RdS W ⟨n, css, 0, 0⟩ e w') := fun W => by
        have hlen : (looseHead n css.length ++ rend ts).length < 4294967281 := by
          rw [List.length_append]
          have h1 := congrArg List.length HTs2.out
          have h2 := HAll.out
          have h3 := rend_len HGp.out
          have h4 := HHl.out
          rw [List.length_map] at h1
          omega
        have := dimRead_any ⟨(looseHead n css.length ++ rend ts).toArray⟩ W (by rw [mk_list]; exact hlen) (by
          rw [mk_list]
          intro b hb
          rcases List.mem_append.1 hb with h | h
          · exact looseHead_ascii n css.length b h
          · exact rend_ascii HTs2.out HG2.out b h)
        rw [mk_list, rdF_loose n css ts HF.out (by have := HLc.out; omega) HTs2.out HG2.out] at this
        exact this
      have HXr : Hid (Bx w n (.slice a css.length c) css wr) := HX1.out.on HBl.out
      clear hk
      generalize (⟨(looseHead n css.length ++ rend ts).toArray⟩ : ByteArray) = T at *
      go_wp2_with fail
      refine (HRd.out wr).mono ?_
      rintro e w4 ⟨s4, rfl, own4, bel4⟩
      simp only at own4 ⊢
      have HX4 : Hid (Bx w n (.slice a css.length c) css w4) := HXr.out.on bel4
      have R4 : Hid (Rds w4 s4 css) := own4.rds hl H8.out
      have HX5 : Hid (Bx w n (.slice a css.length c) css (w4.alloc (.cells #[.int .i64 n, s4] 25))) := HX4.out.on (below_box _ _)
      have HX6 : Hid (Bx w4 n s4 css (w4.alloc (.cells #[.int .i64 n, s4] 25))) := Bx.new R4.out _
      obtain ⟨a4, k4, hs4⟩ := (show ∃ a4 k4, s4 = .slice a4 css.length k4 by obtain ⟨a4, k4, e, _⟩ := R4.out.form; exact ⟨a4, k4, e⟩)
      subst hs4
      have c0 := HX5.out.c0
      have c1 := HX5.out.c1
      have e0 := HX6.out.c0
      have e1 := HX6.out.c1
      clear own4 bel4 c1x
      go_wp2_with fail
      generalize w4.alloc (.cells #[.int .i64 n, .slice a4 css.length k4] 25) = W5 at *
      refine (sameFormula_self n _ _ css W5 HX5.out.rd HX6.out.rd).mono ?_
      rintro e w6 ⟨rfl, bel6⟩
      have HB6 : Hid (Below w.heap.size w w6) := (HX5.out.on bel6).bel
      clear bel6 c0 c1 e0 e1
      go_wp2
      go_ret
      exact ⟨rfl, HB6.out⟩

end Go.Proofs.YthdogkafmhnffaaDoor.dimacsLoose
