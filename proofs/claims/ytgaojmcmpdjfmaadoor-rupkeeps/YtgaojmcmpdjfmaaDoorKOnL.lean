/-
  rup: look.
  KEEP: set on app at below new trans refl start ap kept rd rds mono lt add none own nil put len pos setF setV putL putR other neV same_any
-/
import Derived.Test.YtgaojmcmpdjfmaaDoorKOnPt
set_option linter.unusedSimpArgs false
set_option linter.unusedVariables false
namespace Go.Proofs.YtgaojmcmpdjfmaaDoor
open Go Go.RowKit

/-- what look says of a clause -/
def Lk8 (w0 w w' : World) (b : Nat) (s : Sy) (n : Nat) (css : List (List Int)) (K M : List Int) (R : List Nat) (c : List Int) (e : Ending) : Prop :=
  ((∀ m ∈ c, -m ∈ K ++ M) ∧ e = .panicked clashV ∧ Below w.heap.size w w') ∨ (∃ l ∈ c, -l ∉ K ++ M ∧ l ∈ K ++ M ∧ e = .returned (.tuple #[]) ∧ Below w.heap.size w w') ∨ ∃ l ∈ c, -l ∉ K ++ M ∧ l ∉ K ++ M ∧ e = .returned (.tuple #[]) ∧ Pt8 w0 w w' b s n css K M R l
theorem Pt8.from {w0 w w1 w' : World} {b : Nat} {s : Sy} {n : Nat} {css : List (List Int)} {K M : List Int} {R : List Nat} {l : Int} (hb : Below w.heap.size w w1) (h : Pt8 w0 w1 w' b s n css K M R l) : Pt8 w0 w w' b s n css K M R l := by
  obtain ⟨s', S, a, c, d, m⟩ := h
  exact ⟨s', S, a, c, d, (Mo.below hb).trans m⟩
set_option maxRecDepth 100000 in
set_option maxHeartbeats 3200000 in
theorem oLook_any (w0 : World) (b : Nat) (s : Sy) (n : Nat) (css : List (List Int)) (K M : List Int) (R : List Nat) (k : Nat) (w : World) (h : Ow w0 w b s n css K M R) (hr : Rds w0 s.C css) (hR : R.length ≤ 1073741824) (hk : k < css.length) :
    Calls Tryd.prog 57 #[.pointer (some ⟨b, 0, none⟩), .int .i32 (k : Int)] w fun e w' => Lk8 w0 w w' b s n css K M R (css.getD k []) e := by
  have HW : Hid (Ow w0 w b s n css K M R ∧ R.length ≤ 1073741824) := ⟨h, hR⟩
  have hN := h.fit.num
  have hcl := h.fit.len _ (getD_in hk)
  have HLt : Hid (∀ l ∈ css.getD k [], fmd l = true ∧ idx l < n) := h.fit.lit _ (getD_in hk)
  obtain ⟨F, P, hz, -⟩ := h.z
  have b0 := hz.c0
  have hrw := hr.below h.bel
  obtain ⟨ac, cc, eC, l1, l2, hAT⟩ := hrw.form
  rw [eC] at b0
  obtain ⟨bb, off, u, rfl, kc, hrd⟩ := hAT k hk
  obtain ⟨ax, cx, rfl, x1, x2, hcx⟩ := hrd.form
  have HC : Hid (∀ (W : World) (j : Nat), Below w.heap.size w W → j < (css.getD k []).length → ∃ b2 off2, ax = some ⟨b2, off2, none⟩ ∧ W.cell? ⟨b2, off2 + j, none⟩ = some (.int .i64 ((css.getD k []).getD j 0))) := fun W j hW hj => by
    obtain ⟨b2, off2, e, hc⟩ := hcx j hj
    exact ⟨b2, off2, e, (hW.cell (p := ⟨b2, off2 + j, none⟩) (World.block_lt_of_cell? w _ hc)).trans hc⟩
  clear hz hrw hAT hrd hcx eC h hr hR
  generalize css.getD k [] = c at *
  go_enter Tryd.func57, Tryd.ntmps57
  go_wp2
  go_loopg [14] c.length (fun g j' wr => ∃ j : Nat, j + g = c.length ∧ j' = .int .i64 j ∧ Below w.heap.size w wr ∧ ∀ m ∈ c.take j, -m ∈ K ++ M)
  case atStart => exact ⟨0, by omega, rfl, Below.refl _ _, by simp⟩
  case round =>
    obtain ⟨j, hj, rfl, hb, hall⟩ := hrel
    have HJ : Hid (j + gk = c.length) := hj
    have HB : Hid (Below w.heap.size w wr ∧ ∀ m ∈ c.take j, -m ∈ K ++ M) := ⟨hb, hall⟩
    clear hj hb hall
    by_cases hlt : j < c.length
    · obtain ⟨b2, off2, rfl, c1⟩ := HC.out wr j HB.out.1 hlt
      have hlm : c.getD j 0 ∈ c := getD_mem' (d := 0) hlt
      have hlf := HLt.out _ hlm
      have HTk : Hid (∀ x, x ∈ c.take (j + 1) ↔ x ∈ c.take j ∨ x = c.getD j 0) := fun x => mem_take_more hlt
      have HLT : Hid (j < c.length) := hlt
      generalize c.getD j 0 = l at *
      have hr := fmd_range hlf.1
      have hwl : IntKind.i64.wrap (-l) = -l := by rw [IntKind.wrap_i64]; omega
      go_wp2_with fail
      refine (oTrue_any w0 b s n css K M R (-l) wr (HW.out.1.below HB.out.1) (fmd_neg hlf.1) (idx_neg_lt hlf.1 HW.out.1.fit.ev hlf.2)).mono ?_
      rintro e w1 ⟨rfl, bel1⟩
      have HB1 : Hid (Below w.heap.size w w1) := Below.step HB.out.1 bel1
      clear bel1
      by_cases hin : -l ∈ K ++ M
      · have HIn : Hid (-l ∈ K ++ M) := hin
        rw [decide_eq_true hin]
        clear hin
        go_wp2
        go_roundg (gk - 1)
        case measure => have := HJ.out; have := HLT.out; omega
        case rel => exact ⟨j + 1, by have := HJ.out; have := HLT.out; omega, by go_num, HB1.out, fun m hm => ((HTk.out m).1 hm).elim (HB.out.2 m) (fun e => e ▸ HIn.out)⟩
      · have HIn : Hid (-l ∉ K ++ M) := hin
        have HLm : Hid (l ∈ c) := hlm
        rw [decide_eq_false hin]
        clear hin hlm
        go_wp2_with fail
        refine (oPut_any w0 b s n css K M R l w1 (HW.out.1.below HB1.out) HW.out.2 hlf.1 hlf.2).mono ?_
        rintro e w2 (⟨h1, -, -⟩ | ⟨h1, h2, rfl, h3⟩ | ⟨h1, h2, rfl, h3⟩)
        · exact absurd h1 HIn.out
        · have HF : Hid (l ∈ K ++ M ∧ Below w.heap.size w w2) := ⟨h2, Below.step HB1.out h3⟩
          clear h1 h2 h3
          go_wp2
          refine bodyPost_ret (results_none rfl _ _ _) rfl ?_
          exact .inr (.inl ⟨l, HLm.out, HIn.out, HF.out.1, rfl, HF.out.2⟩)
        · have HF : Hid (l ∉ K ++ M ∧ Pt8 w0 w w2 b s n css K M R l) := ⟨h2, h3.from HB1.out⟩
          clear h1 h2 h3
          go_wp2
          refine bodyPost_ret (results_none rfl _ _ _) rfl ?_
          exact .inr (.inr ⟨l, HLm.out, HIn.out, HF.out.1, rfl, HF.out.2⟩)
    · have hje : j = c.length := by have := HJ.out; omega
      have HA : Hid (∀ m ∈ c, -m ∈ K ++ M) := by
        have := HB.out.2
        rw [hje, List.take_length] at this
        exact this
      go_wp2
      exact ⟨rfl, .inl ⟨HA.out, rfl, HB.out.1⟩⟩
end Go.Proofs.YtgaojmcmpdjfmaaDoor
