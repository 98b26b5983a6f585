/-
  unit: Probe (walks/genpb.py writes it).
  KEEP: set on app at below new trans refl start ap kept rd rds mono lt add none own nil put len pos setF setV putL putR other neV same_any
-/
import Derived.Test.YtijhabhbeambeaaDoorKUnPr
import Derived.Test.YtijhabhbeambeaaDoorJUnS
set_option linter.unusedSimpArgs false
set_option linter.unusedVariables false
namespace Go.Proofs.YtijhabhbeambeaaDoor
open Go Go.RowKit

theorem idx_litAt6 {i : Int} (h0 : 0 ≤ i) (h1 : i < 2097152) : fmd (litAt i) = true ∧ idx (litAt i) = i := by
  rcases (show i % 2 = 0 ∨ i % 2 = 1 by omega) with h | h
  · rw [litAt_even h0 h1 h]
    have hf : fmd (i / 2 + 1) = true := fmd_true (by omega) (by omega) (by omega)
    exact ⟨hf, by rw [(there_pos hf (by omega)).1]; omega⟩
  · rw [litAt_odd h0 h1 h]
    have hf : fmd (-(i / 2 + 1)) = true := fmd_true (by omega) (by omega) (by omega)
    exact ⟨hf, by rw [(there_neg hf (by omega)).1]; omega⟩
/-- the literals that alone lead to a clash -/
noncomputable def prD (css : List (List Int)) (n : Nat) : List Int := ((List.range n).map fun (j : Nat) => litAt (j : Int)).filter (fun l => @decide (Cla css [l]) (Classical.propDecidable _))
theorem prD_zero (css : List (List Int)) : prD css 0 = [] := rfl
theorem prD_yes {css : List (List Int)} {j : Nat} (h : Cla css [litAt (j : Int)]) : prD css (j + 1) = prD css j ++ [litAt (j : Int)] := by
  unfold prD
  rw [List.range_succ, List.map_append, List.filter_append]
  congr 1
  simp [h]
theorem prD_no {css : List (List Int)} {j : Nat} (h : ¬ Cla css [litAt (j : Int)]) : prD css (j + 1) = prD css j := by
  unfold prD
  rw [List.range_succ, List.map_append, List.filter_append]
  simp [h]
theorem prD_len (css : List (List Int)) (n : Nat) : (prD css n).length ≤ n := by
  unfold prD
  refine Nat.le_trans (List.length_filter_le _ _) ?_
  simp
def prE (v : Int) (css : List (List Int)) : Int := if frm v css then (if 2000 < v then 4 else 0) else 1
structure Pb (w w' : World) (v : Int) (css : List (List Int)) (u : Value) (D : List Int) : Prop where
  own : Own w.heap.size w' u D
  yes : prE v css = 0 → D = prD css (2 * v.toNat)
  no : prE v css ≠ 0 → D = []
  bel : Below w.heap.size w w'
theorem Pb.len {w w' : World} {v : Int} {css : List (List Int)} {u : Value} {D : List Int} (h : Pb w w' v css u D) : D.length ≤ 4000 := by
  by_cases h0 : prE v css = 0
  · rw [h.yes h0]
    have h1 := prD_len css (2 * v.toNat)
    have : v ≤ 2000 := by
      unfold prE at h0
      split at h0
      · split at h0
        · cases h0
        · omega
      · cases h0
    omega
  · rw [h.no h0]; simp
theorem Pb.same {w w' w1 w1' : World} {v : Int} {css : List (List Int)} {u u' : Value} {D D' : List Int} (h : Pb w w' v css u D) (h' : Pb w1 w1' v css u' D') : D = D' := by
  by_cases h0 : prE v css = 0
  · rw [h.yes h0, h'.yes h0]
  · rw [h.no h0, h'.no h0]
theorem calm_inv {css : List (List Int)} {L : List Int} (h : Calm css L) : Inv css L (fun _ => false) := by
  refine ⟨(fun k hk => by cases hk), fun k hk hc => .inr ?_⟩
  rcases kd_cases L (css.getD k []) with ⟨e, (⟨m, h1, h2⟩ | ⟨m, h1, m', h2, h3, h4, h5⟩)⟩ | ⟨e, h1, h2⟩ | ⟨l, e, h1, h2, h3, h4⟩
  · exact ⟨m, h1, h2⟩
  · exact absurd (cnt_one hc h1 h4 m' h2 (Ne.symm h3)) h5
  · rw [h k hk] at e; cases e
  · rw [h k hk] at e; cases e
theorem root_ok {css : List (List Int)} {cs : List (Int × Nat)} (h : Clo css [] cs (-1)) : Rt css (cs.map Prod.fst) ∧ ∀ l, Cla css (cs.map Prod.fst ++ [l]) ↔ Cla css [l] := by
  have hk : Calm css (cs.map Prod.fst) := by
    rcases h.2 with ⟨_, b⟩ | ⟨k, a, _⟩
    · simpa using b
    · omega
  have hcon : Con (cs.map Prod.fst) := by have := Pth.con (L := []) (fun l h => by simp at h) h.1; simpa using this
  refine ⟨⟨hcon, hk, h.1.new.2.2, calm_inv hk⟩, fun l => ⟨fun hc => hc.trans fun x hx => ?_, fun hc => hc.trans fun x hx => .fact (List.mem_append.2 (.inr hx))⟩⟩
  rcases List.mem_append.1 hx with a | a
  · have := Pth.der h.1 x (by simpa using a)
    exact this.trans fun y hy => by simp at hy
  · exact .fact a
theorem mx_upto {n : Int} {c : List Int} (h : ∀ l ∈ c, varOf l ≤ n) : ∀ a : Int, a ≤ n → mx a c ≤ n := by
  induction c with
  | nil => intro a ha; exact ha
  | cons x r ih =>
    intro a ha
    have h1 := h x (by simp)
    exact ih (fun l hl => h l (List.mem_cons_of_mem _ hl)) (max a (varOf x)) (by omega)
theorem grt_vars {vn : Nat} {css : List (List Int)} (h : frm (vn : Int) css = true) : 2 * (grt css).toNat ≤ 2 * vn := by
  have hv : ∀ c ∈ css, ∀ l ∈ c, varOf l ≤ (vn : Int) := fun c hc l hl => by
    unfold frm at h
    rw [Bool.and_eq_true] at h
    have h2 := List.all_eq_true.1 h.2 c hc
    unfold fitsP at h2
    have h3 := List.all_eq_true.1 h2 l hl
    rw [Bool.and_eq_true] at h3
    exact of_decide_eq_true h3.2
  have key : ∀ (css : List (List Int)), (∀ c ∈ css, ∀ l ∈ c, varOf l ≤ (vn : Int)) → ∀ a : Int, a ≤ (vn : Int) → css.foldl mx a ≤ (vn : Int) := by
    intro css
    induction css with
    | nil => intro _ a ha; exact ha
    | cons x r ih =>
      intro h a ha
      exact ih (fun c hc => h c (List.mem_cons_of_mem _ hc)) (mx a x) (mx_upto (h x (by simp)) a ha)
  have := key css hv 0 (by omega)
  have e : grt css = css.foldl mx 0 := rfl
  omega
section
variable {w0 W W' : World} {b : Nat} {s : Sz} {vF : Value} {N : Nat} {css : List (List Int)} {L0 L : List Int} {fs : List Bool} {n : Nat} {Q : Nat → Bool} {cs : List (Int × Nat)}
theorem two_ty (h : Cw w0 W b s n css L Q cs) (hz : Fz w0 W b s vF N css L0 fs) {k : Nat} (hk : s.two b vF k) : ¬ Ty W k 3 := by
  obtain ⟨F, P, z, -⟩ := h.z
  intro ht
  rcases hk with (rfl | e | e | e | e | e | e) | e
  · exact absurd (ht.unique z.ty) (by decide)
  · exact absurd (ht.unique (row_ty z.i e)) (by decide)
  · exact absurd (ht.unique (row_ty z.e e)) (by decide)
  · exact absurd (ht.unique (row_ty z.f e)) (by decide)
  · exact absurd (ht.unique (row_ty z.p e)) (by decide)
  · exact absurd (ht.unique (row_ty z.c e)) (by decide)
  · rcases wq_ty z.w e with a | a
    · exact absurd (ht.unique a) (by decide)
    · exact absurd (ht.unique a) (by decide)
  · exact absurd (ht.unique (row_ty hz.fr e)) (by decide)
/-- a list of ints grows: the closing stays -/
theorem two_app {B : Nat} {v : Value} {zs : List Int} {o : Obj} (h : Cw w0 W b s n css L Q cs) (hz : Fz w0 W b s vF N css L0 fs) (ho : Own B W v zs) (hB : w0.heap.size ≤ B) (hg : (W.alloc o).grownBy W' v.ownBlock) : Cw w0 W' b s n css L Q cs ∧ Fz w0 W' b s vF N css L0 fs := by
  have hlt : ∀ k, s.two b vF k → k < W.heap.size := fun k hk => hk.elim (fun e => (h.lt k e).2) (fun e => (hz.fr.lt k e.symm).2)
  have hne : ∀ k, s.two b vF k → some k ≠ v.ownBlock := fun k hk e => two_ty h hz hk (row_ty ho e)
  have hal := below_box W o
  have hkeep : ∀ k, s.two b vF k → W'.heap[k]? = W.heap[k]? := fun k hk => (hg.block k (Nat.lt_of_lt_of_le (hlt k hk) hal.size) (hne k hk)).trans (hal.block k (hlt k hk))
  have hb : Below w0.heap.size w0 W' := (Below.step h.bel hal).grown hg (Nat.le_trans h.bel.size hal.size) (fun q e => Nat.le_trans hB (ho.lt q e).1)
  exact ⟨h.kept hb fun k hk => hkeep k (.inl hk), ⟨row_kept hz.fr fun k hk => hkeep k (.inr hk), hz.ap, hz.ok⟩⟩
theorem two_mo {B : Nat} {v : Value} {zs : List Int} {s' : Sz} (h : Cw w0 W b s n css L Q cs) (hz : Fz w0 W b s vF N css L0 fs) (ho : Own B W v zs) (hm : Mo W (s.two b vF) W' (s'.two b vF)) : Own B W' v zs :=
  row_kept ho fun k hk => hm.block k (ho.lt k hk.symm).2 (fun h2 => two_ty h hz h2 (row_ty ho hk))
end
set_option maxRecDepth 100000 in
set_option maxHeartbeats 6400000 in
theorem uProbe_any (v : Int) (s : Value) (css : List (List Int)) (w : World) (hr : Rds w s css) (hw : Few css) (hD : Deb w) :
    Calls Tryd.prog 5 #[.agg #[.int .i64 v, s]] w fun e w' => ∃ u D, e = .returned (.tuple #[u, .int .i64 (prE v css)]) ∧ Pb w w' v css u D := by
  have HR : Hid (Rds w s css ∧ Few css ∧ Deb w) := ⟨hr, hw, hD⟩
  have HB1 : Hid (Below w.heap.size w (w.alloc (.cells #[.int .i64 v, s] 24))) := below_box _ _
  have k0 := box0 w (.int .i64 v) s 24
  have k1 := box1 w (.int .i64 v) s 24
  have hbs : w.heap.size < (w.alloc (.cells #[.int .i64 v, s] 24)).heap.size := by rw [World.size_alloc]; exact Nat.lt_succ_self _
  have HX0 : Hid (∀ W, Below (w.alloc (.cells #[.int .i64 v, s] 24)).heap.size (w.alloc (.cells #[.int .i64 v, s] 24)) W → W.cell? ⟨w.heap.size, 0, none⟩ = some (.int .i64 v) ∧ W.cell? ⟨w.heap.size, 1, none⟩ = some s) := fun W hW => ⟨(hW.cell (p := ⟨w.heap.size, 0, none⟩) hbs).trans k0, (hW.cell (p := ⟨w.heap.size, 1, none⟩) hbs).trans k1⟩
  have HNo : Hid (∀ w', Below w.heap.size w w' → ∀ x : Int, prE v css = x → x ≠ 0 → ∃ u D, Ending.returned (.tuple #[.slice none 0 0, .int .i64 x]) = .returned (.tuple #[u, .int .i64 (prE v css)]) ∧ Pb w w' v css u D) := fun w' hb x hx hx0 => ⟨_, [], by rw [hx], ⟨World.ownsRow_nil _ _ _ _, fun h => absurd (hx.symm.trans h) hx0, fun _ => rfl, hb⟩⟩
  clear hr hw hD hbs k0 k1
  go_enter Tryd.func5, Tryd.ntmps5
  go_wp2_with fail
  refine (cnfFormed_any v s css _ (HR.out.1.below (below_box _ _))).mono ?_
  rintro e w1 ⟨rfl, bel1⟩
  generalize w.alloc (.cells #[.int .i64 v, s] 24) = W0 at *
  have HW1 : Hid (Below W0.heap.size W0 w1 ∧ Below w.heap.size w w1) := ⟨bel1, Below.step HB1.out bel1⟩
  obtain ⟨k0, k1⟩ := HX0.out w1 bel1
  clear bel1
  cases hfm : frm v css
  · have HE : Hid (prE v css = 1) := by show _ = _; unfold prE; rw [hfm]; rfl
    go_wp2
    go_ret2
    exact HNo.out _ HW1.out.2 1 HE.out (by decide)
  · have hv0 : 0 ≤ v := by
      unfold frm at hfm
      rw [Bool.and_eq_true] at hfm
      exact (of_decide_eq_true hfm.1).1
    have HFm : Hid (frm v css = true) := hfm
    obtain ⟨vn, rfl⟩ : ∃ vn : Nat, v = vn := ⟨v.toNat, by omega⟩
    by_cases hbig : 2000 < vn
    · have HE : Hid (prE (vn : Int) css = 4) := by show _ = _; unfold prE; rw [hfm, if_pos rfl, if_pos (by omega)]
      go_wp2
      go_ret2
      exact HNo.out _ HW1.out.2 4 HE.out (by decide)
    · have HE : Hid (prE (vn : Int) css = 0) := by show _ = _; unfold prE; rw [hfm, if_pos rfl, if_neg (by omega)]
      have HRs : Hid (Rds w1 s css ∧ Deb w1) := ⟨HR.out.1.below HW1.out.2, HR.out.2.2.below HW1.out.2⟩
      clear hfm hv0
      go_wp2_with fail
      refine (uBegin_any (vn : Int) s css w1 HRs.out.1 HR.out.2.1.num HR.out.2.1.len HR.out.2.1.szs HR.out.2.1.sum (frm_fmd HFm.out)).mono ?_
      rintro e w2 ⟨b, sz, Q2, rfl, cw2, hC, hinv2⟩
      have H2 : Hid (Cw w1 w2 b sz (2 * (grt css).toNat) css [] Q2 [] ∧ sz.C = s ∧ Inv css [] Q2) := ⟨cw2, hC, hinv2⟩
      clear cw2 hC hinv2 k0 k1
      go_wp2_with fail
      refine (uRun_any w1 b sz _ css [] Q2 [] w2 H2.out.1 (by rw [H2.out.2.1]; exact HRs.out.1) (fun l h => by simp at h) H2.out.2.2 HRs.out.2 (by simp)).mono ?_
      rintro e w3 ⟨e0, cs0, Q3, u3, rfl, hclo, hran, hq3⟩
      have HClo : Hid (Clo css [] cs0 e0 ∧ (e0 = -1 → ∀ k, Q3 k = false)) := ⟨hclo, hq3⟩
      have HCw3 : Hid (Cw w1 w3 b { sz with S := u3 } (2 * (grt css).toNat) css (cs0.map Prod.fst) Q3 cs0) := by
        show Cw w1 w3 b { sz with S := u3 } (2 * (grt css).toNat) css (cs0.map Prod.fst) Q3 cs0
        simpa using hran.cw
      have HB3 : Hid (Below w1.heap.size w1 w3) := HCw3.out.bel
      obtain ⟨k0, k1⟩ := HX0.out w3 (Below.step HW1.out.1 HB3.out)
      have hmk := run_make_row' (P := Tryd.prog) 56 4 (.bool false) 1 Tryd.underlying56 infoB6 rfl .i64 .i64 (2 * vn) (by omega) (by omega)
      rw [show ((2 * vn : Nat) : Int) = 2 * (vn : Int) by omega] at hmk
      have hw2 : wrap64 (2 * (vn : Int)) = 2 * (vn : Int) := by unfold wrap64; omega
      have HFr : Hid ((w3.alloc (.cells (madeCells #[.bool false] (2 * vn)) 4)).ownsRow w3.heap.size 4 1 (.slice (some ⟨w3.heap.size, 0, none⟩) (2 * vn) (2 * vn)) (2 * vn) ((List.replicate (2 * vn) false).map Value.bool)) := by
        refine ⟨by simp, .inr ⟨w3.heap.size, 2 * vn, _, rfl, Nat.le_refl _, World.alloc_heap_new w3 _, Nat.le_refl _, by unfold maxLen; omega, by rw [made_zero6]; simp, ?_⟩⟩
        rw [made_zero6]; simp
      have HB4 : Hid (Below w3.heap.size w3 (w3.alloc (.cells (madeCells #[.bool false] (2 * vn)) 4))) := below_box _ _
      have hcsl : cs0.length ≤ 2097152 := by
        obtain ⟨g1, _, g3⟩ := hclo.1.new
        have := lits_few g1 (fun x hx => by obtain ⟨c, h1, h2⟩ := g3 x hx; exact frm_fmd HFm.out c h1 x h2)
        simpa using this
      have HCe : Hid (cs0.length ≤ 2097152) := hcsl
      clear hran hclo hq3 hcsl
      by_cases hge0 : 0 ≤ e0
      · have hge : decide (0 ≤ e0) = true := decide_eq_true hge0
        have HAll : Hid (∀ l, Cla css [l]) := fun l => by
          obtain ⟨k, hk⟩ : ∃ k : Nat, e0 = k := ⟨e0.toNat, by omega⟩
          have h1 := HClo.out.1
          rw [hk] at h1
          exact (h1.clash (fun c hc x hx => (fmd_range (frm_fmd HFm.out c hc x hx)).1)).trans fun x hx => by simp at hx
        have H4 : Hid (Own w1.heap.size (w3.alloc (.cells (madeCells #[.bool false] (2 * vn)) 4)) (.slice none 0 0) (prD css 0) ∧ Below w1.heap.size w1 (w3.alloc (.cells (madeCells #[.bool false] (2 * vn)) 4))) := ⟨World.ownsRow_nil _ _ _ _, Below.step HB3.out HB4.out⟩
        go_wp2
        generalize w3.alloc (.cells (madeCells #[.bool false] (2 * vn)) 4) = w4 at *
        go_loopg [4, 8, 9, 27] (2 * vn) (fun q o' i8 l9 i' wr => ∃ (j : Nat) (ao : Option Addr) (co : Nat), j + q = 2 * vn ∧ o' = .slice ao (prD css j).length co ∧ i' = .int .i64 j ∧ Own w1.heap.size wr (.slice ao (prD css j).length co) (prD css j) ∧ Below w1.heap.size w1 wr)
        case atStart => exact ⟨0, none, 0, by omega, rfl, rfl, H4.out.1, H4.out.2⟩
        case round =>
        obtain ⟨j, ao, co, hj, rfl, rfl, ho, hb⟩ := hrel
        have HJ : Hid (j + gk = 2 * vn) := hj
        have HO : Hid (Own w1.heap.size wr (.slice ao (prD css j).length co) (prD css j) ∧ Below w1.heap.size w1 wr) := ⟨ho, hb⟩
        clear hj ho hb
        by_cases hlt : j < 2 * vn
        · have HLT : Hid (j < 2 * vn) := hlt
          have HCl : Hid (Cla css [litAt (j : Int)]) := HAll.out _
          go_wp2_with fail
          refine (at_any (j : Int) wr).mono ?_
          rintro e w5 ⟨rfl, hw5⟩
          obtain rfl : wr = w5 := hw5.symm
          clear hw5
          have HY : Hid (prD css (j + 1) = prD css j ++ [litAt (j : Int)]) := prD_yes HCl.out
          have HO6 : Hid (Own w1.heap.size (wr.alloc (.cells #[.int .i64 (litAt (j : Int))] 3)) (.slice ao (prD css j).length co) (prD css j)) := HO.out.1.below (below_box _ _)
          have HR6 : Hid (Rd (wr.alloc (.cells #[.int .i64 (litAt (j : Int))] 3)) (.slice (some ⟨wr.heap.size, 0, none⟩) 1 1) [litAt (j : Int)]) := (ownOne wr (litAt (j : Int))).rd (by simp)
          have hl6 : ((prD css j).length + 1) * 8 ≤ 140737488355328 := by have := prD_len css j; have := HLT.out; omega
          have HA6 : Hid (∀ v7 w7, Own w1.heap.size w7 v7 (prD css j ++ [litAt (j : Int)]) → Ap (wr.alloc (.cells #[.int .i64 (litAt (j : Int))] 3)) (.slice ao (prD css j).length co) w7 v7 → Below w1.heap.size w1 w7) := fun v7 w7 own7 ap7 => (Below.step HO.out.2 (below_box _ _)).grown ap7.grown (Nat.le_trans (HO.out.2).size (below_box _ _).size) (fun q e => (HO6.out.lt q e).1)
          have HS6 : Hid (w1.heap.size ≤ (wr.alloc (.cells #[.int .i64 (litAt (j : Int))] 3)).heap.size) := Nat.le_trans (HO.out.2).size (below_box _ _).size
          generalize hll : litAt (j : Int) = ll at *
          have HLL : Hid (litAt (j : Int) = ll) := hll
          clear hll
          generalize hPD : prD css j = PD at *
          clear hPD
          go_wp2_with (at_builtin; refine wpList_app_rd rfl _ _ rfl w1.heap.size (.slice ao PD.length co) (.slice (some ⟨wr.heap.size, 0, none⟩) 1 1) PD [ll] rfl rfl HO6.out HR6.out hl6 HS6.out ?_; intro v7 w7 own7 ap7; have F7 : Hid (Own w1.heap.size w7 v7 (PD ++ [ll]) ∧ Below w1.heap.size w1 w7) := ⟨own7, HA6.out v7 w7 own7 ap7⟩; obtain ⟨a7, c7, hv7⟩ := own_form own7; subst hv7; clear own7 ap7)
          go_roundg (gk - 1)
          case measure => have := HJ.out; have := HLT.out; omega
          case rel => exact ⟨j + 1, a7, c7,  by have := HJ.out; have := HLT.out; omega, by rw [HY.out]; simp, by go_num, by rw [HY.out]; exact F7.out.1, F7.out.2⟩
        · obtain rfl : j = 2 * vn := by have := HJ.out; omega
          have HF : Hid (∃ u D, Ending.returned (.tuple #[.slice ao (prD css (2 * vn)).length co, .int .i64 0]) = .returned (.tuple #[u, .int .i64 (prE (vn : Int) css)]) ∧ Pb w wr (vn : Int) css u D) := ⟨_, _, by rw [HE.out], ⟨HO.out.1.mono HW1.out.2.size, fun _ => by simp, fun h => absurd HE.out h, Below.step HW1.out.2 HO.out.2⟩⟩
          go_wp2
          go_ret2
          exact HF.out
      · have hge : decide (0 ≤ e0) = false := decide_eq_false hge0
        obtain rfl : e0 = -1 := by
          rcases HClo.out.1.2 with ⟨e1, _⟩ | ⟨k, e1, _⟩
          · exact e1
          · omega
        obtain ⟨hrt, hcl1⟩ := root_ok HClo.out.1
        have HRt : Hid (Rt css (cs0.map Prod.fst) ∧ ∀ l, Cla css (cs0.map Prod.fst ++ [l]) ↔ Cla css [l]) := ⟨hrt, hcl1⟩
        have hQ : Q3 = fun _ => false := funext (HClo.out.2 rfl)
        subst hQ
        have hgn : 2 * (grt css).toNat ≤ 2 * vn := grt_vars HFm.out
        have H4 : Hid (Own w1.heap.size (w3.alloc (.cells (madeCells #[.bool false] (2 * vn)) 4)) (.slice none 0 0) (prD css 0) ∧ Below w1.heap.size w1 (w3.alloc (.cells (madeCells #[.bool false] (2 * vn)) 4)) ∧ Cw w1 (w3.alloc (.cells (madeCells #[.bool false] (2 * vn)) 4)) b { sz with S := u3 } (2 * (grt css).toNat) css (cs0.map Prod.fst) (fun _ => false) cs0 ∧ Fz w1 (w3.alloc (.cells (madeCells #[.bool false] (2 * vn)) 4)) b { sz with S := u3 } (.slice (some ⟨w3.heap.size, 0, none⟩) (2 * vn) (2 * vn)) (2 * vn) css (cs0.map Prod.fst) (List.replicate (2 * vn) false)) := by
          refine ⟨World.ownsRow_nil _ _ _ _, Below.step HB3.out HB4.out, HCw3.out.below HB4.out, ⟨row_mono HFr.out HB3.out.size, fun k hk ho => ?_, fun j l hj => ?_⟩⟩
          · have h1 := (HCw3.out.lt k ho).2
            have : k = w3.heap.size := by simpa [Value.ownBlock] using hk
            omega
          · rw [List.getElem?_replicate] at hj
            split at hj <;> simp at hj
        have HCs : Hid (({ sz with S := u3 } : Sz).C = s) := H2.out.2.1
        obtain ⟨s3, hs3⟩ : ∃ s3 : Sz, s3 = { sz with S := u3 } := ⟨_, rfl⟩
        rw [← hs3] at H4 HCs
        clear hs3 hrt hcl1
        go_wp2
        generalize w3.alloc (.cells (madeCells #[.bool false] (2 * vn)) 4) = w4 at *
        go_loopg [4, 8, 9, 27] (2 * vn) (fun q o' i8 l9 i' wr => ∃ (j : Nat) (ao : Option Addr) (co : Nat) (s5 : Sz) (fs5 : List Bool), j + q = 2 * vn ∧ o' = .slice ao (prD css j).length co ∧ i' = .int .i64 j ∧ Own w1.heap.size wr (.slice ao (prD css j).length co) (prD css j) ∧ Below w1.heap.size w1 wr ∧ Cw w1 wr b s5 (2 * (grt css).toNat) css (cs0.map Prod.fst) (fun _ => false) cs0 ∧ Fz w1 wr b s5 (.slice (some ⟨w3.heap.size, 0, none⟩) (2 * vn) (2 * vn)) (2 * vn) css (cs0.map Prod.fst) fs5 ∧ s5.C = s)
        case atStart => exact ⟨0, none, 0, s3, _, by omega, rfl, rfl, H4.out.1, H4.out.2.1, H4.out.2.2.1, H4.out.2.2.2, HCs.out⟩
        case round =>
        obtain ⟨j, ao, co, s5, fs5, hj, rfl, rfl, ho, hb, hcw, hfz, hsc⟩ := hrel
        have HJ : Hid (j + gk = 2 * vn) := hj
        have HO : Hid (Own w1.heap.size wr (.slice ao (prD css j).length co) (prD css j) ∧ Below w1.heap.size w1 wr) := ⟨ho, hb⟩
        have HZ : Hid (Cw w1 wr b s5 (2 * (grt css).toNat) css (cs0.map Prod.fst) (fun _ => false) cs0 ∧ Fz w1 wr b s5 (.slice (some ⟨w3.heap.size, 0, none⟩) (2 * vn) (2 * vn)) (2 * vn) css (cs0.map Prod.fst) fs5 ∧ s5.C = s) := ⟨hcw, hfz, hsc⟩
        clear hj ho hb hcw hfz hsc
        by_cases hlt : j < 2 * vn
        · have HLT : Hid (j < 2 * vn) := hlt
          obtain ⟨hfl, hil⟩ := idx_litAt6 (i := (j : Int)) (by omega) (by omega)
          have HCall : Hid (Calls Tryd.prog 29 #[.pointer (some ⟨b, 0, none⟩), .int .i64 (litAt (j : Int)), .slice (some ⟨w3.heap.size, 0, none⟩) (2 * vn) (2 * vn)] wr fun e w' => ∃ r s' fs', e = .returned (.bool r) ∧ (r = true ↔ Cla css (cs0.map Prod.fst ++ [litAt (j : Int)])) ∧ Cs w1 wr w' b s5 s' (2 * (grt css).toNat) css (cs0.map Prod.fst) cs0 (.slice (some ⟨w3.heap.size, 0, none⟩) (2 * vn) (2 * vn)) (2 * vn) fs') := uClashes_any w1 b s5 _ css _ cs0 _ _ fs5 _ wr HZ.out.1 HZ.out.2.1 HRt.out.1 (by rw [HZ.out.2.2]; exact HRs.out.1) HRs.out.2 HCe.out hfl (by rw [hil]; omega) hgn (by omega)
          clear hfl hil
          go_wp2_with fail
          refine (at_any (j : Int) wr).mono ?_
          rintro e w5 ⟨rfl, hw5⟩
          obtain rfl : wr = w5 := hw5.symm
          clear hw5
          go_wp2_with fail
          refine Calls.mono HCall.out ?_
          rintro e w6 ⟨r, s6, fs6, rfl, hiff, hcs⟩
          have H6 : Hid (Cw w1 w6 b s6 (2 * (grt css).toNat) css (cs0.map Prod.fst) (fun _ => false) cs0 ∧ Fz w1 w6 b s6 (.slice (some ⟨w3.heap.size, 0, none⟩) (2 * vn) (2 * vn)) (2 * vn) css (cs0.map Prod.fst) fs6 ∧ Own w1.heap.size w6 (.slice ao (prD css j).length co) (prD css j) ∧ s6.C = s) := ⟨hcs.cw, hcs.fz, two_mo HZ.out.1 HZ.out.2.1 HO.out.1 hcs.mo, hcs.c.trans HZ.out.2.2⟩
          have HIff : Hid (r = true ↔ Cla css [litAt (j : Int)]) := hiff.trans (HRt.out.2 _)
          clear hcs hiff HCall
          cases r
          · have HY : Hid (prD css (j + 1) = prD css j) := prD_no fun h => by have := HIff.out.2 h; cases this
            go_wp2
            go_roundg (gk - 1)
            case measure => have := HJ.out; have := HLT.out; omega
            case rel => exact ⟨j + 1, ao, co, s6, fs6, by have := HJ.out; have := HLT.out; omega, by rw [HY.out], by go_num, by rw [HY.out]; exact H6.out.2.2.1, H6.out.1.bel, H6.out.1, H6.out.2.1, H6.out.2.2.2⟩
          · have HCl : Hid (Cla css [litAt (j : Int)]) := HIff.out.1 rfl
            have HY : Hid (prD css (j + 1) = prD css j ++ [litAt (j : Int)]) := prD_yes HCl.out
            have HO6 : Hid (Own w1.heap.size (w6.alloc (.cells #[.int .i64 (litAt (j : Int))] 3)) (.slice ao (prD css j).length co) (prD css j)) := H6.out.2.2.1.below (below_box _ _)
            have HR6 : Hid (Rd (w6.alloc (.cells #[.int .i64 (litAt (j : Int))] 3)) (.slice (some ⟨w6.heap.size, 0, none⟩) 1 1) [litAt (j : Int)]) := (ownOne w6 (litAt (j : Int))).rd (by simp)
            have hl6 : ((prD css j).length + 1) * 8 ≤ 140737488355328 := by have := prD_len css j; have := HLT.out; omega
            have HA6 : Hid (∀ v7 w7, Own w1.heap.size w7 v7 (prD css j ++ [litAt (j : Int)]) → Ap (w6.alloc (.cells #[.int .i64 (litAt (j : Int))] 3)) (.slice ao (prD css j).length co) w7 v7 → Below w1.heap.size w1 w7) := fun v7 w7 own7 ap7 => (Below.step H6.out.1.bel (below_box _ _)).grown ap7.grown (Nat.le_trans (H6.out.1.bel).size (below_box _ _).size) (fun q e => (HO6.out.lt q e).1)
            have HS6 : Hid (w1.heap.size ≤ (w6.alloc (.cells #[.int .i64 (litAt (j : Int))] 3)).heap.size) := Nat.le_trans (H6.out.1.bel).size (below_box _ _).size
            generalize hll : litAt (j : Int) = ll at *
            have HLL : Hid (litAt (j : Int) = ll) := hll
            clear hll
            generalize hPD : prD css j = PD at *
            clear hPD
            go_wp2_with (at_builtin; refine wpList_app_rd rfl _ _ rfl w1.heap.size (.slice ao PD.length co) (.slice (some ⟨w6.heap.size, 0, none⟩) 1 1) PD [ll] rfl rfl HO6.out HR6.out hl6 HS6.out ?_; intro v7 w7 own7 ap7; have F7 : Hid (Own w1.heap.size w7 v7 (PD ++ [ll]) ∧ Below w1.heap.size w1 w7) := ⟨own7, HA6.out v7 w7 own7 ap7⟩; have K7 : Hid (Cw w1 w7 b s6 (2 * (grt css).toNat) css (cs0.map Prod.fst) (fun _ => false) cs0 ∧ Fz w1 w7 b s6 (.slice (some ⟨w3.heap.size, 0, none⟩) (2 * vn) (2 * vn)) (2 * vn) css (cs0.map Prod.fst) fs6) := two_app H6.out.1 H6.out.2.1 H6.out.2.2.1 (Nat.le_refl _) ap7.grown; obtain ⟨a7, c7, hv7⟩ := own_form own7; subst hv7; clear own7 ap7)
            go_roundg (gk - 1)
            case measure => have := HJ.out; have := HLT.out; omega
            case rel => exact ⟨j + 1, a7, c7, s6, fs6, by have := HJ.out; have := HLT.out; omega, by rw [HY.out]; simp, by go_num, by rw [HY.out]; exact F7.out.1, F7.out.2, K7.out.1, K7.out.2, H6.out.2.2.2⟩
        · obtain rfl : j = 2 * vn := by have := HJ.out; omega
          have HF : Hid (∃ u D, Ending.returned (.tuple #[.slice ao (prD css (2 * vn)).length co, .int .i64 0]) = .returned (.tuple #[u, .int .i64 (prE (vn : Int) css)]) ∧ Pb w wr (vn : Int) css u D) := ⟨_, _, by rw [HE.out], ⟨HO.out.1.mono HW1.out.2.size, fun _ => by simp, fun h => absurd HE.out h, Below.step HW1.out.2 HO.out.2⟩⟩
          go_wp2
          go_ret2
          exact HF.out
end Go.Proofs.YtijhabhbeambeaaDoor
