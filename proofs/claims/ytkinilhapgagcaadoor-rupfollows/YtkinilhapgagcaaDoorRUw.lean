/-
  unit, the document's answer: given, first, Why; and same.
  KEEP: set on app at below new trans refl start ap kept rd rds mono lt add none own nil put len pos setF setV putL putR other neV same_any
-/
import Derived.Test.YtkinilhapgagcaaDoorRUs
import Derived.Test.YtkinilhapgagcaaDoorShape
set_option linter.unusedSimpArgs false
set_option linter.unusedVariables false
namespace Go.Proofs.YtkinilhapgagcaaDoor
open Go Go.RowKit

/-- all literals are formed, and of the variables up to t -/
def Upt (t : Nat) (L : List Int) : Prop := ∀ l ∈ L, fmd l = true ∧ l.natAbs ≤ t
theorem Upt.zero {t : Nat} {L : List Int} (h : Upt t L) : (0 : Int) ∉ L := fun h0 => (fmd_range (h 0 h0).1).1 rfl
theorem upt_facts {css : List (List Int)} {facts : List Int} (h : facts.all fmd = true) : Upt (topL css facts).toNat facts := fun l hl => by
  have hf := List.all_eq_true.1 h l hl
  have h1 := (top_range css facts).2.2.2 l hl
  rw [var_abs hf] at h1
  exact ⟨hf, by omega⟩
theorem upt_css {n : Int} {css : List (List Int)} {facts : List Int} (h : frm n css = true) : ∀ c ∈ css, Upt (topL css facts).toNat c := fun c hc l hl => by
  have hf := frm_fmd h c hc l hl
  have h1 := (top_range css facts).2.2.1 c hc l hl
  rw [var_abs hf] at h1
  exact ⟨hf, by omega⟩
theorem Con.take {L : List Int} {j : Nat} (h : Con L) : Con (L.take j) := fun l h1 h2 => h l (List.mem_of_mem_take h1) (List.mem_of_mem_take h2)
set_option maxRecDepth 100000 in
set_option maxHeartbeats 1000000 in
theorem rGiven_any (n : Int) (s vf : Value) (css : List (List Int)) (facts : List Int) (w : World) (hr : Rds w s css) (hf : Rd w vf facts) (h1 : frm n css = true) (h2 : facts.all fmd = true) :
    Calls Tryd.prog 57 #[.agg #[.int .i64 n, s], vf] w fun e w' => ∃ g, e = .returned (.tuple #[.slice (some ⟨g, 0, none⟩) ((topL css facts).toNat + 1) ((topL css facts).toNat + 1), .bool (!adj (tid facts))]) ∧ (adj (tid facts) = false → Vz w.heap.size w' g ((topL css facts).toNat + 1) (topL css facts).toNat facts) ∧ Below w.heap.size w w' := by
  have hlf := hf.len
  have HR : Hid (Rds w s css ∧ Rd w vf facts ∧ frm n css = true ∧ facts.all fmd = true) := ⟨hr, hf, h1, h2⟩
  have HU : Hid (Upt (topL css facts).toNat facts ∧ (topL css facts).toNat ≤ 1048576) := ⟨upt_facts h2, by have := (top_range css facts).2.1; omega⟩
  have HAd : Hid (adj (tid facts) = false ↔ Con facts) := adj_con h2
  obtain ⟨af, cf, rfl, hl1, hl2, hcf⟩ := hf.form
  have HCf : Hid (∀ (W : World) (j : Nat), Below w.heap.size w W → j < facts.length → ∃ bb off, af = some ⟨bb, off, none⟩ ∧ W.cell? ⟨bb, off + j, none⟩ = some (.int .i64 (facts.getD j 0))) := fun W j hW hj => by
    obtain ⟨bb, off, e, hc⟩ := hcf j hj
    exact ⟨bb, off, e, (hW.cell (p := ⟨bb, off + j, none⟩) (World.block_lt_of_cell? w _ hc)).trans hc⟩
  clear hr hf hcf h1 h2
  go_enter Tryd.func57, Tryd.ntmps57
  go_wp2_with fail
  refine (rValues_any n s _ css facts _ (HR.out.1.below (below_box _ _)) (HR.out.2.1.below (below_box _ _)) (frm_fmd HR.out.2.2.1) (fun l hl => List.all_eq_true.1 HR.out.2.2.2 l hl)).mono ?_
  rintro e w1 ⟨g, rfl, hv, hb⟩
  have HV : Hid (Vz w.heap.size w1 g ((topL css facts).toNat + 1) (topL css facts).toNat (facts.take 0) ∧ Below w.heap.size w w1 ∧ w.heap.size ≤ g) := ⟨row_mono hv (below_box _ _).size, Below.step (below_box _ _) hb, Nat.le_trans (below_box w _).size (hv.lt g rfl).1⟩
  clear hv hb
  generalize hTe : (topL css facts).toNat = T at *
  have HTT : Hid ((topL css facts).toNat = T) := hTe
  clear hTe
  go_wp2
  go_loopg [7] facts.length (fun q i' wr => ∃ k : Nat, k + q = facts.length ∧ i' = .int .i64 k ∧ Con (facts.take k) ∧ Vz w.heap.size wr g (T + 1) T (facts.take k) ∧ Below w.heap.size w wr)
  case atStart => exact ⟨0, by omega, rfl, by intro l hl; simp at hl, HV.out.1, HV.out.2.1⟩
  case round =>
    obtain ⟨k, hk, rfl, hcon, hv, hb⟩ := hrel
    have HK : Hid (k + gk = facts.length) := hk
    have HS : Hid (Con (facts.take k) ∧ Vz w.heap.size wr g (T + 1) T (facts.take k) ∧ Below w.heap.size w wr) := ⟨hcon, hv, hb⟩
    clear hk hcon hv hb
    by_cases hlt : k < facts.length
    · obtain ⟨bb, off, rfl, kc⟩ := HCf.out wr k HS.out.2.2 hlt
      have HL : Hid (fmd (facts.getD k 0) = true ∧ (facts.getD k 0).natAbs ≤ T) := HU.out.1 _ (getD_mem' hlt)
      have HT : Hid (facts.take (k + 1) = facts.take k ++ [facts.getD k 0]) := take_succ_getD facts 0 k hlt
      have HMem : Hid (facts.getD k 0 ∈ facts) := getD_mem' hlt
      have HLT : Hid (k < facts.length) := hlt
      generalize facts.getD k 0 = l at *
      have HZ : Hid ((0 : Int) ∉ facts.take k) := fun h0 => HU.out.1.zero (List.mem_of_mem_take h0)
      go_wp2_with fail
      refine (rValue_any _ T (facts.take k) l wr (HS.out.2.1.rd HU.out.2) HU.out.2 HL.out.1 HS.out.1 (.inl HL.out.2)).mono ?_
      rintro e w9 ⟨rfl, hw9⟩
      obtain rfl : wr = w9 := hw9.symm
      clear hw9
      by_cases hm : vl (facts.take k) l = -1
      · have HA : Hid (adj (tid facts) = true) := by
          cases e : adj (tid facts)
          · exact absurd (List.mem_of_mem_take (vl_m1 hm).1) (HAd.out.1 e l HMem.out)
          · rfl
        rw [hm]
        clear hm
        go_wp2
        go_ret2
        exact ⟨g, (by rw [HA.out, HTT.out]; rfl), (fun h => (by rw [HA.out] at h; cases h)), HS.out.2.2⟩
      · have HN : Hid (-l ∉ facts.take k) := fun h => by
          rcases vl_range (facts.take k) l with a | a | a
          · exact HS.out.1 l (vl_one.1 a) h
          · exact hm a
          · exact (vl_zero.1 a).2 h
        have hx : (vl (facts.take k) l == -1) = false := by simpa using hm
        generalize vl (facts.take k) l = x at *
        go_wp2_with fail
        refine (rPut_any w.heap.size g (T + 1) T (facts.take k) l wr HS.out.2.1 HU.out.2 HL.out.1 HN.out HZ.out HL.out.2).mono ?_
        rintro e w5 ⟨rfl, hv5, hg5⟩
        have HF : Hid (Con (facts.take (k + 1)) ∧ Vz w.heap.size w5 g (T + 1) T (facts.take (k + 1)) ∧ Below w.heap.size w w5) := by
          rw [HT.out]
          exact ⟨HS.out.1.snoc (fmd_range HL.out.1).1 HN.out, hv5, HS.out.2.2.grown hg5 HS.out.2.2.size (fun q e => by injection e with e; subst e; exact HV.out.2.2)⟩
        clear hv5 hg5 kc
        go_wp2
        go_roundg (gk - 1)
        case measure => have := HK.out; have := HLT.out; omega
        case rel => exact ⟨k + 1, by have := HK.out; have := HLT.out; omega, by go_num, HF.out.1, HF.out.2.1, HF.out.2.2⟩
    · have hke : k = facts.length := by have := HK.out; omega
      rw [hke, List.take_length] at HS
      have HA : Hid (adj (tid facts) = false) := HAd.out.2 HS.out.1
      clear hke
      go_wp2
      go_ret2
      exact ⟨g, (by rw [HA.out, HTT.out]; rfl), (fun _ => by rw [HTT.out]; exact HS.out.2.1), HS.out.2.2⟩

/-- what first answers -/
def FsOk (css : List (List Int)) (L : List Int) (i k o : Int) : Prop := (∃ j : Nat, At css L j 0 ∧ i = j ∧ k = 2 ∧ o = 0) ∨ (∃ (j : Nat) (l : Int), l ≠ 0 ∧ At css L j l ∧ i = j ∧ k = 3 ∧ o = l) ∨ (Calm css L ∧ i = -1 ∧ k = 0 ∧ o = 0)
end Go.Proofs.YtkinilhapgagcaaDoor
