/-
  unit, the document's answer: given, first, Why; and same.
  KEEP: set on app at below new trans refl start ap kept rd rds mono lt add none own nil put len pos setF setV putL putR other neV same_any
-/
import Derived.Test.YtijhabhbeambeaaDoorKRUs
import Derived.Test.YtijhabhbeambeaaDoorShape
set_option linter.unusedSimpArgs false
set_option linter.unusedVariables false
namespace Go.Proofs.YtijhabhbeambeaaDoor
open Go Go.RowKit

/-- all literals are formed, and of the variables up to t -/
def Upt (t : Nat) (L : List Int) : Prop := ∀ l ∈ L, fmd l = true ∧ l.natAbs ≤ t
theorem Upt.zero {t : Nat} {L : List Int} (h : Upt t L) : (0 : Int) ∉ L := fun h0 => (fmd_range (h 0 h0).1).1 rfl
theorem upt_facts {css : List (List Int)} {facts : List Int} (h : facts.all fmd = true) : Upt (topL css facts).toNat facts := fun l hl => by
  have hf := List.all_eq_true.1 h l hl
  have h1 := (top_range css facts).2.2.2 l hl
  rw [var_abs hf] at h1
  exact ⟨hf, by omega⟩
theorem upt_css {n : Int} {css : List (List Int)} {facts : List Int} (h : frm n css = true) : ∀ c ∈ css, Upt (topL css facts).toNat c := fun c hc l hl => by
  have hf := frm_fmd h c hc l hl
  have h1 := (top_range css facts).2.2.1 c hc l hl
  rw [var_abs hf] at h1
  exact ⟨hf, by omega⟩
theorem Con.take {L : List Int} {j : Nat} (h : Con L) : Con (L.take j) := fun l h1 h2 => h l (List.mem_of_mem_take h1) (List.mem_of_mem_take h2)
set_option maxRecDepth 100000 in
set_option maxHeartbeats 1000000 in
theorem rGiven_any (n : Int) (s vf : Value) (css : List (List Int)) (facts : List Int) (w : World) (hr : Rds w s css) (hf : Rd w vf facts) (h1 : frm n css = true) (h2 : facts.all fmd = true) :
    Calls Tryd.prog 42 #[.agg #[.int .i64 n, s], vf] w fun e w' => ∃ g, e = .returned (.tuple #[.slice (some ⟨g, 0, none⟩) ((topL css facts).toNat + 1) ((topL css facts).toNat + 1), .bool (!adj (tid facts))]) ∧ (adj (tid facts) = false → Vz w.heap.size w' g ((topL css facts).toNat + 1) (topL css facts).toNat facts) ∧ Below w.heap.size w w' := by
  have hlf := hf.len
  have HR : Hid (Rds w s css ∧ Rd w vf facts ∧ frm n css = true ∧ facts.all fmd = true) := ⟨hr, hf, h1, h2⟩
  have HU : Hid (Upt (topL css facts).toNat facts ∧ (topL css facts).toNat ≤ 1048576) := ⟨upt_facts h2, by have := (top_range css facts).2.1; omega⟩
  have HAd : Hid (adj (tid facts) = false ↔ Con facts) := adj_con h2
  obtain ⟨af, cf, rfl, hl1, hl2, hcf⟩ := hf.form
  have HCf : Hid (∀ (W : World) (j : Nat), Below w.heap.size w W → j < facts.length → ∃ bb off, af = some ⟨bb, off, none⟩ ∧ W.cell? ⟨bb, off + j, none⟩ = some (.int .i64 (facts.getD j 0))) := fun W j hW hj => by
    obtain ⟨bb, off, e, hc⟩ := hcf j hj
    exact ⟨bb, off, e, (hW.cell (p := ⟨bb, off + j, none⟩) (World.block_lt_of_cell? w _ hc)).trans hc⟩
  clear hr hf hcf h1 h2
  go_enter Tryd.func42, Tryd.ntmps42
  go_wp2_with fail
  refine (rValues_any n s _ css facts _ (HR.out.1.below (below_box _ _)) (HR.out.2.1.below (below_box _ _)) (frm_fmd HR.out.2.2.1) (fun l hl => List.all_eq_true.1 HR.out.2.2.2 l hl)).mono ?_
  rintro e w1 ⟨g, rfl, hv, hb⟩
  have HV : Hid (Vz w.heap.size w1 g ((topL css facts).toNat + 1) (topL css facts).toNat (facts.take 0) ∧ Below w.heap.size w w1 ∧ w.heap.size ≤ g) := ⟨row_mono hv (below_box _ _).size, Below.step (below_box _ _) hb, Nat.le_trans (below_box w _).size (hv.lt g rfl).1⟩
  clear hv hb
  generalize hTe : (topL css facts).toNat = T at *
  have HTT : Hid ((topL css facts).toNat = T) := hTe
  clear hTe
  go_wp2
  go_loopg [7] facts.length (fun q i' wr => ∃ k : Nat, k + q = facts.length ∧ i' = .int .i64 k ∧ Con (facts.take k) ∧ Vz w.heap.size wr g (T + 1) T (facts.take k) ∧ Below w.heap.size w wr)
  case atStart => exact ⟨0, by omega, rfl, by intro l hl; simp at hl, HV.out.1, HV.out.2.1⟩
  case round =>
    obtain ⟨k, hk, rfl, hcon, hv, hb⟩ := hrel
    have HK : Hid (k + gk = facts.length) := hk
    have HS : Hid (Con (facts.take k) ∧ Vz w.heap.size wr g (T + 1) T (facts.take k) ∧ Below w.heap.size w wr) := ⟨hcon, hv, hb⟩
    clear hk hcon hv hb
    by_cases hlt : k < facts.length
    · obtain ⟨bb, off, rfl, kc⟩ := HCf.out wr k HS.out.2.2 hlt
      have HL : Hid (fmd (facts.getD k 0) = true ∧ (facts.getD k 0).natAbs ≤ T) := HU.out.1 _ (getD_mem' hlt)
      have HT : Hid (facts.take (k + 1) = facts.take k ++ [facts.getD k 0]) := take_succ_getD facts 0 k hlt
      have HMem : Hid (facts.getD k 0 ∈ facts) := getD_mem' hlt
      have HLT : Hid (k < facts.length) := hlt
      generalize facts.getD k 0 = l at *
      have HZ : Hid ((0 : Int) ∉ facts.take k) := fun h0 => HU.out.1.zero (List.mem_of_mem_take h0)
      go_wp2_with fail
      refine (rValue_any _ T (facts.take k) l wr (HS.out.2.1.rd HU.out.2) HU.out.2 HL.out.1 HS.out.1 (.inl HL.out.2)).mono ?_
      rintro e w9 ⟨rfl, hw9⟩
      obtain rfl : wr = w9 := hw9.symm
      clear hw9
      by_cases hm : vl (facts.take k) l = -1
      · have HA : Hid (adj (tid facts) = true) := by
          cases e : adj (tid facts)
          · exact absurd (List.mem_of_mem_take (vl_m1 hm).1) (HAd.out.1 e l HMem.out)
          · rfl
        rw [hm]
        clear hm
        go_wp2
        go_ret2
        exact ⟨g, (by rw [HA.out, HTT.out]; rfl), (fun h => (by rw [HA.out] at h; cases h)), HS.out.2.2⟩
      · have HN : Hid (-l ∉ facts.take k) := fun h => by
          rcases vl_range (facts.take k) l with a | a | a
          · exact HS.out.1 l (vl_one.1 a) h
          · exact hm a
          · exact (vl_zero.1 a).2 h
        have hx : (vl (facts.take k) l == -1) = false := by simpa using hm
        generalize vl (facts.take k) l = x at *
        go_wp2_with fail
        refine (rPut_any w.heap.size g (T + 1) T (facts.take k) l wr HS.out.2.1 HU.out.2 HL.out.1 HN.out HZ.out HL.out.2).mono ?_
        rintro e w5 ⟨rfl, hv5, hg5⟩
        have HF : Hid (Con (facts.take (k + 1)) ∧ Vz w.heap.size w5 g (T + 1) T (facts.take (k + 1)) ∧ Below w.heap.size w w5) := by
          rw [HT.out]
          exact ⟨HS.out.1.snoc (fmd_range HL.out.1).1 HN.out, hv5, HS.out.2.2.grown hg5 HS.out.2.2.size (fun q e => by injection e with e; subst e; exact HV.out.2.2)⟩
        clear hv5 hg5 kc
        go_wp2
        go_roundg (gk - 1)
        case measure => have := HK.out; have := HLT.out; omega
        case rel => exact ⟨k + 1, by have := HK.out; have := HLT.out; omega, by go_num, HF.out.1, HF.out.2.1, HF.out.2.2⟩
    · have hke : k = facts.length := by have := HK.out; omega
      rw [hke, List.take_length] at HS
      have HA : Hid (adj (tid facts) = false) := HAd.out.2 HS.out.1
      clear hke
      go_wp2
      go_ret2
      exact ⟨g, (by rw [HA.out, HTT.out]; rfl), (fun _ => by rw [HTT.out]; exact HS.out.2.1), HS.out.2.2⟩

/-- what first answers -/
def FsOk (css : List (List Int)) (L : List Int) (i k o : Int) : Prop := (∃ j : Nat, At css L j 0 ∧ i = j ∧ k = 2 ∧ o = 0) ∨ (∃ (j : Nat) (l : Int), l ≠ 0 ∧ At css L j l ∧ i = j ∧ k = 3 ∧ o = l) ∨ (Calm css L ∧ i = -1 ∧ k = 0 ∧ o = 0)
set_option maxRecDepth 100000 in
set_option maxHeartbeats 1000000 in
theorem rFirst_any (n : Int) (s v : Value) (css : List (List Int)) (t : Nat) (L : List Int) (w : World) (hr : Rds w s css) (hv : Rd w v (vsL t L)) (ht : t ≤ 1048576) (hf : ∀ c ∈ css, Upt t c) (hc : Con L) :
    Calls Tryd.prog 43 #[.agg #[.int .i64 n, s], v] w fun e w' => ∃ i k o, e = .returned (.tuple #[.int .i64 i, .int .i64 k, .int .i64 o]) ∧ FsOk css L i k o ∧ Below w.heap.size w w' := by
  have hl := hr.len
  have HX : Hid (Bx w n s css (w.alloc (.cells #[.int .i64 n, s] 24))) := Bx.new hr _
  have HV : Hid (∀ W, Below w.heap.size w W → Rd W v (vsL t L)) := fun W hW => hv.below hW
  have HU : Hid ((∀ c ∈ css, Upt t c) ∧ Con L ∧ t ≤ 1048576) := ⟨hf, hc, ht⟩
  obtain ⟨a, c, rfl, h3, h4, -⟩ := hr.form
  have HB : Hid (Below w.heap.size w (w.alloc (.cells #[.int .i64 n, .slice a css.length c] 24))) := below_box _ _
  clear hr hv hf hc ht
  go_enter Tryd.func43, Tryd.ntmps43
  go_wp2
  generalize w.alloc (.cells #[.int .i64 n, .slice a css.length c] 24) = W0 at *
  go_loopg [7] css.length (fun g i' wr => ∃ k : Nat, k + g = css.length ∧ i' = .int .i64 k ∧ (∀ j, j < k → kd L (css.getD j []) = none) ∧ wr = W0)
  case atStart => exact ⟨0, by omega, rfl, fun j hj => by omega, rfl⟩
  case round =>
    obtain ⟨k, hk, rfl, hno, hwr⟩ := hrel
    obtain rfl : W0 = wr := hwr.symm
    have HK : Hid (k + gk = css.length) := hk
    have HNo : Hid (∀ j, j < k → kd L (css.getD j []) = none) := hno
    have c0 := HX.out.c0
    have c1 := HX.out.c1
    clear hwr hk hno
    by_cases hlt : k < css.length
    · obtain ⟨a', c', e', -, -, hAT⟩ := HX.out.rd.form
      injection e' with e1 _ e3
      subst e1
      subst e3
      obtain ⟨bb, off, u, rfl, kc, hrd⟩ := hAT k hlt
      have HRd : Hid (Rd W0 u (css.getD k [])) := hrd
      obtain ⟨au, cu, rfl, -, -, -⟩ := hrd.form
      have HLT : Hid (k < css.length) := hlt
      have HSt : Hid (Calls Tryd.prog 66 #[.slice au (css.getD k []).length cu, v] W0 fun e w' => ∃ k1 o, e = .returned (.tuple #[.int .i64 k1, .int .i64 o]) ∧ StOk L (css.getD k []) k1 o ∧ w' = W0) := rStands_any (.slice au (css.getD k []).length cu) v (css.getD k []) t L W0 HRd.out (HV.out _ HB.out) HU.out.2.2 (HU.out.1 _ (getD_in hlt)) HU.out.2.1
      clear hrd hAT
      generalize hck : css.getD k [] = ck at *
      have HCk : Hid (css.getD k [] = ck) := hck
      clear hck
      go_wp2_with fail
      refine HSt.out.mono ?_
      rintro e w9 ⟨kk, o, rfl, hst, hw9⟩
      obtain rfl : W0 = w9 := hw9.symm
      clear hw9
      rcases hst with ⟨hkd, rfl, rfl⟩ | ⟨l, hl0, hkd, rfl, rfl⟩ | ⟨hkd, hkk, rfl⟩
      · have HF : Hid (FsOk css L k 2 0) := .inl ⟨k, ⟨HLT.out, by rw [HCk.out]; exact hkd, HNo.out⟩, rfl, rfl, rfl⟩
        clear hkd
        go_wp2
        go_ret3
        exact ⟨_, _, _, rfl, HF.out, HB.out⟩
      · have HF : Hid (FsOk css L k 3 o) := .inr (.inl ⟨k, o, hl0, ⟨HLT.out, by rw [HCk.out]; exact hkd, HNo.out⟩, rfl, rfl, rfl⟩)
        clear hkd
        go_wp2
        go_ret3
        exact ⟨_, _, _, rfl, HF.out, HB.out⟩
      · have HF : Hid (∀ j, j < k + 1 → kd L (css.getD j []) = none) := fun j hj => by
          by_cases e : j = k
          · subst e; rw [HCk.out]; exact hkd
          · exact HNo.out j (by omega)
        clear hkd
        rcases hkk with rfl | rfl
        · go_wp2
          go_roundg (gk - 1)
          case measure => have := HK.out; have := HLT.out; omega
          case rel => exact ⟨k + 1, by have := HK.out; have := HLT.out; omega, by go_num, HF.out, rfl⟩
        · go_wp2
          go_roundg (gk - 1)
          case measure => have := HK.out; have := HLT.out; omega
          case rel => exact ⟨k + 1, by have := HK.out; have := HLT.out; omega, by go_num, HF.out, rfl⟩
    · have HF : Hid (FsOk css L (-1) 0 0) := .inr (.inr ⟨fun j hj => HNo.out j (by have := HK.out; omega), rfl, rfl, rfl⟩)
      go_wp2
      go_ret3
      exact ⟨_, _, _, rfl, HF.out, HB.out⟩
end Go.Proofs.YtijhabhbeambeaaDoor
