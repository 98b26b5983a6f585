/-
  joined: RpO UnA RUn RUs RUw RUy RUz
-/
import Derived.Test.YtjajafeaengnjaaGreatDoorJUnS
import Derived.Test.YtjajafeaengnjaaGreatDoorJUnC
import Derived.Test.YtjajafeaengnjaaGreatDoorKNgw
import Derived.Test.YtjajafeaengnjaaGreatDoorKSmall
import Derived.Test.YtjajafeaengnjaaGreatDoorJForms
set_option linter.unusedSimpArgs false
set_option linter.unusedVariables false
namespace Go.Proofs.YtjajafeaengnjaaGreatDoor
open Go Go.RowKit

theorem opw_opp {c : List Int} (h : c.all fmd = true) : c.map ngw = opp c := by
  unfold opp
  exact List.map_congr_left fun x hx => ngw_fmd (List.all_eq_true.1 h x hx)
def negL (c : List Int) (j : Nat) : List Int := (c.take j).map ngw ++ List.replicate (c.length - j) 0
theorem negL_len {c : List Int} {j : Nat} (h : j ≤ c.length) : (negL c j).length = c.length := by simp [negL]; omega
theorem negL_all (c : List Int) : negL c c.length = c.map ngw := by simp [negL]
theorem negL_set {c : List Int} {j : Nat} (h : j < c.length) : (negL c j).set j (ngw (c.getD j 0)) = negL c (j + 1) := by
  apply List.ext_getElem?
  intro i
  by_cases e : j = i
  · subst e
    rw [List.getElem?_set_self (by rw [negL_len (by omega)]; exact h)]
    unfold negL
    rw [List.getElem?_append_left (by simp; omega), List.getElem?_map, List.getElem?_take_of_lt (by omega), List.getD_eq_getElem?_getD, List.getElem?_eq_getElem h]; rfl
  · rw [List.getElem?_set_ne e]
    unfold negL
    by_cases hi : i < j
    · rw [List.getElem?_append_left (by simp; omega), List.getElem?_append_left (by simp; omega), List.getElem?_map, List.getElem?_map, List.getElem?_take_of_lt hi, List.getElem?_take_of_lt (by omega)]
    · rw [List.getElem?_append_right (by simp; omega), List.getElem?_append_right (by simp; omega), List.getElem?_replicate, List.getElem?_replicate]
      simp only [List.length_map, List.length_take]
      by_cases h3 : i < c.length
      · rw [if_pos (by omega), if_pos (by omega)]
      · rw [if_neg (by omega), if_neg (by omega)]
set_option maxRecDepth 100000 in
set_option maxHeartbeats 3200000 in
theorem oppos_any (v : Value) (c : List Int) (w : World) (hr : Rd w v c) :
    Calls Tryz.prog 86 #[v] w fun e w' => ∃ v', e = .returned v' ∧ Own w.heap.size w' v' (c.map ngw) ∧ Below w.heap.size w w' := by
  have hl := hr.len
  have hmk := run_make_row' (P := Tryz.prog) 25 3 (.int .i64 0) 8 Tryz.underlying25 Tryz.info3 rfl .i64 .i64 c.length (by omega) (by omega)
  obtain ⟨a, cv, rfl, l1, l2, hcell⟩ := hr.form
  have HC : Hid (∀ (W : World) (j : Nat), Below w.heap.size w W → j < c.length → ∃ bb off, a = some ⟨bb, off, none⟩ ∧ W.cell? ⟨bb, off + j, none⟩ = some (.int .i64 (c.getD j 0))) := fun W j hW hj => by
    obtain ⟨bb, off, e, hc⟩ := hcell j hj
    exact ⟨bb, off, e, (hW.cell (p := ⟨bb, off + j, none⟩) (World.block_lt_of_cell? w _ hc)).trans hc⟩
  have HL0 : Hid (Own w.heap.size (w.alloc (.cells (madeCells #[.int .i64 0] c.length) 3)) (.slice (some ⟨w.heap.size, 0, none⟩) c.length c.length) (negL c 0)) := by
    refine ⟨by simp [negL], .inr ⟨w.heap.size, c.length, _, ?_, Nat.le_refl _, World.alloc_heap_new w _, by simp [negL], by unfold maxLen; omega, by rw [made_zero6]; simp, ?_⟩⟩
    · simp [negL]
    · rw [made_zero6]; simp [negL]
  have HB0 : Hid (Below w.heap.size w (w.alloc (.cells (madeCells #[.int .i64 0] c.length) 3))) := below_box _ _
  clear hr hcell
  go_enter Tryz.func86, Tryz.ntmps86
  go_wp2
  go_loopg [11] c.length (fun g j' wr => ∃ (j : Nat), j + g = c.length ∧ j' = .int .i64 j ∧ Own w.heap.size wr (.slice (some ⟨w.heap.size, 0, none⟩) c.length c.length) (negL c j) ∧ Below w.heap.size w wr)
  case atStart => exact ⟨0, by omega, rfl, HL0.out, HB0.out⟩
  case round =>
    obtain ⟨j, hj, rfl, ho, hb⟩ := hrel
    have HJ : Hid (j + gk = c.length) := hj
    have HO : Hid (Own w.heap.size wr (.slice (some ⟨w.heap.size, 0, none⟩) c.length c.length) (negL c j) ∧ Below w.heap.size w wr) := ⟨ho, hb⟩
    clear hj ho hb
    by_cases hlt : j < c.length
    · obtain ⟨bb, off, rfl, c1⟩ := HC.out wr j HO.out.2 hlt
      have HSet : Hid ((negL c j).set j (ngw (c.getD j 0)) = negL c (j + 1)) := negL_set hlt
      have HStep : Hid (∀ l, (negL c j).set j l = negL c (j + 1) → Own w.heap.size (wr.setCell ⟨w.heap.size, j, none⟩ (.int .i64 l)) (.slice (some ⟨w.heap.size, 0, none⟩) c.length c.length) (negL c (j + 1)) ∧ Below w.heap.size w (wr.setCell ⟨w.heap.size, j, none⟩ (.int .i64 l)) ∧ wr.frozen? ⟨w.heap.size, j, none⟩ = false ∧ ∃ z, wr.cell? ⟨w.heap.size, j, none⟩ = some (.int .i64 z)) := fun l hs => by
        have h1 := HO.out.1
        have h1' : wr.ownsRow w.heap.size 3 1 (.slice (some ⟨w.heap.size, 0, none⟩) c.length c.length) c.length ((negL c j).map (Value.int .i64)) := by
          have := h1; unfold Own at this; rw [negL_len (by omega)] at this; exact this
        have h2 := own_cell h1' (k := j) (by omega) (.int .i64 l)
        refine ⟨?_, HO.out.2 |> fun hb => hb.grown (grown_set wr _ _) hb.size (fun k e => by simp at e; omega), row_fz h1' j, ?_⟩
        · unfold Own
          rw [negL_len (by omega), ← hs, List.map_set]
          exact h2
        · obtain ⟨z, hz⟩ : ∃ z, (negL c j)[j]? = some z := ⟨_, List.getElem?_eq_getElem (by rw [negL_len (by omega)]; exact hlt)⟩
          exact ⟨z, row_cell h1' (by rw [List.getElem?_map, hz]; rfl)⟩
      have HLT : Hid (j < c.length) := hlt
      have hng : IntKind.i64.wrap (-(c.getD j 0)) = ngw (c.getD j 0) := rfl
      generalize hz2 : ngw (c.getD j 0) = z2 at *
      clear hz2
      generalize c.getD j 0 = l at *
      obtain ⟨hO1, hB1, hz1, z, hc1⟩ := HStep.out z2 HSet.out
      have HFin : Hid (_ ∧ _) := ⟨hO1, hB1⟩
      clear hO1 hB1 HStep HSet
      go_wp2
      go_roundg (gk - 1)
      case measure => have := HJ.out; have := HLT.out; omega
      case rel => exact ⟨j + 1, by have := HJ.out; have := HLT.out; omega, by go_num, HFin.out.1, HFin.out.2⟩
    · have hje : j = c.length := by have := HJ.out; omega
      rw [hje, negL_all] at HO
      clear hje
      go_wp2
      go_ret
      exact ⟨_, rfl, HO.out.1, HO.out.2⟩
end Go.Proofs.YtjajafeaengnjaaGreatDoor
set_option linter.unusedSimpArgs false
set_option linter.unusedVariables false
namespace Go.Proofs.YtjajafeaengnjaaGreatDoor
open Go Go.RowKit

def awkF : List (List Int) := [[1], [-1, 2]]
theorem awk_clo : Clo awkF [] [(1, 0), (2, 1)] (-1) := by
  refine ⟨⟨⟨by decide, by decide, fun j hj => by omega⟩, by decide, ⟨by decide, by decide, fun j hj => ?_⟩, by decide, trivial⟩, .inl ⟨rfl, fun j hj => ?_⟩⟩
  · obtain rfl : j = 0 := by simpa using hj
    decide
  · rcases (show j = 0 ∨ j = 1 by have : j < 2 := hj; omega) with rfl | rfl <;> decide
theorem awk_says {clash : Bool} {D : List Int} (h : Says6 awkF [] clash D) : clash = false ∧ D = [1, 2] := by
  have h2 := clo_says (v := 2) (css := awkF) (facts := []) (cs := [(1, 0), (2, 1)]) (by decide) (by decide) (by intro l hl; simp at hl) awk_clo
  have e : tid ([] ++ [((1 : Int), 0), (2, 1)].map (Prod.fst : Int × Nat → Int)) = [1, 2] := by decide
  rw [e] at h2
  exact Says6.unique (fun _ => Iff.rfl) Iff.rfl h h2
theorem awk_few : Few awkF := Few.of (by decide) (by decide)
theorem rd_nil (w : World) : Rd w (.slice none 0 0) [] := Rd.nil w
end Go.Proofs.YtjajafeaengnjaaGreatDoor
set_option linter.unusedSimpArgs false
set_option linter.unusedVariables false
namespace Go.Proofs.YtjajafeaengnjaaGreatDoor
open Go Go.RowKit

def vl (L : List Int) (l : Int) : Int := if l ∈ L then 1 else if -l ∈ L then -1 else 0
def vsL (t : Nat) (L : List Int) : List Int := (List.range (t + 1)).map (fun (v : Nat) => vl L (v : Int))
theorem vsL_len (t : Nat) (L : List Int) : (vsL t L).length = t + 1 := by simp [vsL]
theorem vsL_at {t : Nat} {L : List Int} {v : Nat} (h : v ≤ t) : (vsL t L)[v]? = some (vl L (v : Int)) := by
  unfold vsL; rw [List.getElem?_map, List.getElem?_range (by omega)]; rfl
theorem vl_neg {L : List Int} (hc : Con L) (l : Int) : vl L (-l) = -vl L l := by
  unfold vl
  rw [Int.neg_neg]
  by_cases h1 : l ∈ L
  · rw [if_neg (hc l h1), if_pos h1, if_pos h1]
  · by_cases h2 : -l ∈ L
    · rw [if_pos h2, if_neg h1, if_pos h2]; rfl
    · rw [if_neg h2, if_neg h1, if_neg h1, if_neg h2]; rfl
theorem vl_range (L : List Int) (l : Int) : vl L l = 1 ∨ vl L l = -1 ∨ vl L l = 0 := by
  unfold vl
  split
  · exact .inl rfl
  · split
    · exact .inr (.inl rfl)
    · exact .inr (.inr rfl)
theorem vl_one {L : List Int} {l : Int} : vl L l = 1 ↔ l ∈ L := by
  unfold vl
  constructor
  · intro h; by_cases h1 : l ∈ L
    · exact h1
    · rw [if_neg h1] at h; split at h <;> omega
  · intro h; rw [if_pos h]
theorem vl_zero {L : List Int} {l : Int} : vl L l = 0 ↔ l ∉ L ∧ -l ∉ L := by
  unfold vl
  by_cases h1 : l ∈ L
  · rw [if_pos h1]; simp [h1]
  · rw [if_neg h1]
    by_cases h2 : -l ∈ L
    · rw [if_pos h2]; simp [h2]
    · rw [if_neg h2]; simp [h1, h2]
theorem vl_m1 {L : List Int} {l : Int} (h : vl L l = -1) : -l ∈ L ∧ l ∉ L := by
  unfold vl at h
  by_cases h1 : l ∈ L
  · rw [if_pos h1] at h; omega
  · rw [if_neg h1] at h
    by_cases h2 : -l ∈ L
    · exact ⟨h2, h1⟩
    · rw [if_neg h2] at h; omega
theorem vsL_put {t : Nat} {L : List Int} {l : Int} (h0 : l ≠ 0) (hn : -l ∉ L) (hz : (0 : Int) ∉ L) (ht : l.natAbs ≤ t) : (vsL t L).set l.natAbs (if l < 0 then -1 else 1) = vsL t (L ++ [l]) := by
  apply List.ext_getElem?
  intro v
  by_cases hv : v ≤ t
  · by_cases e : l.natAbs = v
    · rw [e, List.getElem?_set_self (by rw [vsL_len]; omega), vsL_at hv]
      congr 1
      by_cases hs : l < 0
      · rw [if_pos hs]
        have e1 : (v : Int) = -l := by omega
        rw [e1]
        unfold vl
        rw [if_neg (by rw [List.mem_append, List.mem_singleton]; rintro (a | a); exact hn a; omega), if_pos (by simp)]
      · rw [if_neg hs]
        have e1 : (v : Int) = l := by omega
        rw [e1]
        unfold vl
        rw [if_pos (by simp)]
    · rw [List.getElem?_set_ne e, vsL_at hv, vsL_at hv]
      congr 1
      have e1 : ((v : Int) ∈ L ++ [l]) = ((v : Int) ∈ L) := by rw [List.mem_append, List.mem_singleton]; simp; intro e2; omega
      have e2 : (-(v : Int) ∈ L ++ [l]) = (-(v : Int) ∈ L) := by rw [List.mem_append, List.mem_singleton]; simp; intro e2; omega
      unfold vl
      simp only [e1, e2]
  · rw [List.getElem?_eq_none (by rw [List.length_set, vsL_len]; omega), List.getElem?_eq_none (by rw [vsL_len]; omega)]

set_option maxRecDepth 100000 in
theorem rValue_any (v : Value) (t : Nat) (L : List Int) (l : Int) (w : World) (hr : Rd w v (vsL t L)) (ht : t ≤ 1048576) (hf : fmd l = true) (hc : Con L) (hl : l.natAbs ≤ t ∨ (l ∉ L ∧ -l ∉ L)) :
    Calls Tryz.prog 42 #[v, .int .i64 l] w fun e w' => e = .returned (.int .i64 (vl L l)) ∧ w' = w := by
  obtain ⟨a, c, ev, h1, h2, hcell⟩ := hr.form
  rw [vsL_len] at ev h1 hcell
  subst ev
  have hfr := fmd_range hf
  have hwl : IntKind.i64.wrap (-l) = -l := by rw [IntKind.wrap_i64]; omega
  have hrg := vl_range L l
  by_cases hs : l < 0
  · by_cases hb : l.natAbs ≤ t
    · obtain ⟨bb, off, rfl, kc⟩ := hcell l.natAbs (by omega)
      have e1 : (vsL t L).getD l.natAbs 0 = -vl L l := by
        rw [List.getD_eq_getElem?_getD, vsL_at hb]
        show vl L (l.natAbs : Int) = _
        rw [show (l.natAbs : Int) = -l by omega, vl_neg hc]
      rw [e1] at kc
      obtain ⟨m, rfl⟩ : ∃ m : Nat, l = -(m : Int) := ⟨l.natAbs, by omega⟩
      have e2 : (-(m : Int)).natAbs = m := by omega
      rw [e2] at kc hb
      have e3 : -(-(m : Int)) = (m : Int) := by omega
      generalize vl L (-(m : Int)) = x at *
      have hwx : IntKind.i64.wrap (- -x) = x := by rw [IntKind.wrap_i64]; omega
      clear hcell hr hc hl e1
      go_enter Tryz.func42, Tryz.ntmps42
      go_wp2
      go_ret
      exact ⟨ret_int (by omega), rfl⟩
    · have e0 : vl L l = 0 := vl_zero.2 (hl.resolve_left hb)
      rw [e0]
      clear hcell hr hc hl
      go_enter Tryz.func42, Tryz.ntmps42
      go_wp2
      go_ret
      exact ⟨rfl, rfl⟩
  · by_cases hb : l.natAbs ≤ t
    · obtain ⟨bb, off, rfl, kc⟩ := hcell l.natAbs (by omega)
      have e1 : (vsL t L).getD l.natAbs 0 = vl L l := by
        rw [List.getD_eq_getElem?_getD, vsL_at hb]
        show vl L (l.natAbs : Int) = _
        rw [show (l.natAbs : Int) = l by omega]
      rw [e1] at kc
      obtain ⟨m, rfl⟩ : ∃ m : Nat, l = (m : Int) := ⟨l.natAbs, by omega⟩
      have e2 : ((m : Int)).natAbs = m := by omega
      rw [e2] at kc hb
      generalize vl L (m : Int) = x at *
      clear hcell hr hc hl e1
      go_enter Tryz.func42, Tryz.ntmps42
      go_wp2
      go_ret
      exact ⟨rfl, rfl⟩
    · have e0 : vl L l = 0 := vl_zero.2 (hl.resolve_left hb)
      rw [e0]
      clear hcell hr hc hl
      go_enter Tryz.func42, Tryz.ntmps42
      go_wp2
      go_ret
      exact ⟨rfl, rfl⟩
/-- values of one's own -/
def Vz (B : Nat) (W : World) (g c t : Nat) (L : List Int) : Prop := W.ownsRow B 3 1 (.slice (some ⟨g, 0, none⟩) (t + 1) c) (t + 1) ((vsL t L).map (Value.int .i64))
theorem Vz.rd {B : Nat} {W : World} {g c t : Nat} {L : List Int} (h : Vz B W g c t L) (ht : t ≤ 1048576) : Rd W (.slice (some ⟨g, 0, none⟩) (t + 1) c) (vsL t L) := by
  have : Own B W (.slice (some ⟨g, 0, none⟩) (t + 1) c) (vsL t L) := by unfold Own; rw [vsL_len]; exact h
  exact this.rd (by rw [vsL_len]; omega)
theorem Vz.below {B : Nat} {W W' : World} {g c t : Nat} {L : List Int} (h : Vz B W g c t L) (hb : Below W.heap.size W W') : Vz B W' g c t L := row_kept h fun k hk => hb.block k (h.lt k hk.symm).2
set_option maxRecDepth 100000 in
theorem rPut_any (B g c t : Nat) (L : List Int) (l : Int) (w : World) (h : Vz B w g c t L) (ht : t ≤ 1048576) (hf : fmd l = true) (hn : -l ∉ L) (hz : (0 : Int) ∉ L) (hl : l.natAbs ≤ t) :
    Calls Tryz.prog 75 #[.slice (some ⟨g, 0, none⟩) (t + 1) c, .int .i64 l] w fun e w' => e = .returned (.tuple #[]) ∧ Vz B w' g c t (L ++ [l]) ∧ w.grownBy w' (some g) := by
  have hfr := fmd_range hf
  have hwl : IntKind.i64.wrap (-l) = -l := by rw [IntKind.wrap_i64]; omega
  obtain ⟨z0, hz0⟩ : ∃ z, (vsL t L)[l.natAbs]? = some z := ⟨_, vsL_at hl⟩
  have kc := row_cell h (j := l.natAbs) (x := .int .i64 z0) (by rw [List.getElem?_map, hz0]; rfl)
  have kz := row_fz h l.natAbs
  have hst := vsL_put hfr.1 hn hz hl
  have HS : Hid (Vz B (w.setCell ⟨g, l.natAbs, none⟩ (.int .i64 (if l < 0 then -1 else 1))) g c t (L ++ [l]) ∧ w.grownBy (w.setCell ⟨g, l.natAbs, none⟩ (.int .i64 (if l < 0 then -1 else 1))) (some g)) := by
    refine ⟨?_, grown_set w _ _⟩
    unfold Vz
    rw [← hst, List.map_set]
    exact own_cell h (by omega) _
  clear h hst hz0 hn hz
  by_cases hs : l < 0
  · rw [if_pos hs] at HS
    obtain ⟨m, rfl⟩ : ∃ m : Nat, l = -(m : Int) := ⟨l.natAbs, by omega⟩
    have e2 : (-(m : Int)).natAbs = m := by omega
    have e3 : -(-(m : Int)) = (m : Int) := by omega
    rw [e2] at kc kz hl HS
    go_enter Tryz.func75, Tryz.ntmps75
    go_wp2
    go_end0
    exact ⟨rfl, HS.out.1, HS.out.2⟩
  · rw [if_neg hs] at HS
    obtain ⟨m, rfl⟩ : ∃ m : Nat, l = (m : Int) := ⟨l.natAbs, by omega⟩
    have e2 : ((m : Int)).natAbs = m := by omega
    rw [e2] at kc kz hl HS
    go_enter Tryz.func75, Tryz.ntmps75
    go_wp2
    go_end0
    exact ⟨rfl, HS.out.1, HS.out.2⟩
set_option maxRecDepth 100000 in
theorem rGreatest_any (v : Value) (c : List Int) (a : Int) (w : World) (hr : Rd w v c) (hf : ∀ l ∈ c, fmd l = true) (h0 : 0 ≤ a) (h1 : a ≤ 1048576) :
    Calls Tryz.prog 88 #[v, .int .i64 a] w fun e w' => e = .returned (.int .i64 (mx a c)) ∧ w' = w := by
  have hl := hr.len
  obtain ⟨ad, cp, rfl, hc, hm, hcell⟩ := hr.form
  have HC : Hid (∀ k, k < c.length → ∃ b off, ad = some ⟨b, off, none⟩ ∧ w.cell? ⟨b, off + k, none⟩ = some (.int .i64 (c.getD k 0))) := hcell
  have HF : Hid (∀ l ∈ c, fmd l = true) := hf
  clear hcell hr hf
  go_enter Tryz.func88, Tryz.ntmps88
  go_wp2
  go_loopg [1, 5] c.length (fun g m' i' wr => ∃ k : Nat, k + g = c.length ∧ m' = .int .i64 (mx a (c.take k)) ∧ i' = .int .i64 k ∧ wr = w)
  case atStart => exact ⟨0, by omega, by simp [mx], rfl, rfl⟩
  case round =>
    obtain ⟨k, hk, rfl, rfl, hwr⟩ := hrel
    obtain rfl : w = wr := hwr.symm
    have HK : Hid (k + gk = c.length) := hk
    clear hwr
    by_cases hlt : k < c.length
    · obtain ⟨b, off, rfl, kc⟩ := HC.out k hlt
      have hfl := HF.out _ (getD_mem' (d := 0) hlt)
      have hmt := mx_take a c hlt
      have hm0 := mx_range (c.take k) a h0 h1
      have HLT : Hid (k < c.length) := hlt
      generalize c.getD k 0 = l at *
      have HMT : Hid (mx a (c.take (k + 1)) = max (mx a (c.take k)) (varOf l)) := hmt
      clear hmt hk
      obtain ⟨m1, m2, -, -⟩ := hm0
      generalize mx a (c.take k) = m0 at *
      have hfr := fmd_range hfl
      have hwl : IntKind.i64.wrap (-l) = -l := by rw [IntKind.wrap_i64]; omega
      have hvo : varOf l = if l < 0 then -l else l := by unfold varOf; rw [if_pos hfl]
      by_cases hs : l < 0
      · rw [if_pos hs] at hvo
        have hA : ¬ m0 < l := by omega
        by_cases hb : m0 < -l
        · have HE : Hid (max m0 (varOf l) = -l) := by show _ = _; omega
          clear hvo
          go_wp2
          go_roundg (gk - 1)
          case measure => have := HK.out; have := HLT.out; omega
          case rel => exact ⟨k + 1, by have := HK.out; have := HLT.out; omega, by rw [HMT.out, HE.out], by go_num, rfl⟩
        · have HE : Hid (max m0 (varOf l) = m0) := by show _ = _; omega
          clear hvo
          go_wp2
          go_roundg (gk - 1)
          case measure => have := HK.out; have := HLT.out; omega
          case rel => exact ⟨k + 1, by have := HK.out; have := HLT.out; omega, by rw [HMT.out, HE.out], by go_num, rfl⟩
      · rw [if_neg hs] at hvo
        by_cases hb : m0 < l
        · have hA : ¬ l < -l := by omega
          have HE : Hid (max m0 (varOf l) = l) := by show _ = _; omega
          clear hvo
          go_wp2
          go_roundg (gk - 1)
          case measure => have := HK.out; have := HLT.out; omega
          case rel => exact ⟨k + 1, by have := HK.out; have := HLT.out; omega, by rw [HMT.out, HE.out], by go_num, rfl⟩
        · have hA : ¬ m0 < -l := by omega
          have HE : Hid (max m0 (varOf l) = m0) := by show _ = _; omega
          clear hvo
          go_wp2
          go_roundg (gk - 1)
          case measure => have := HK.out; have := HLT.out; omega
          case rel => exact ⟨k + 1, by have := HK.out; have := HLT.out; omega, by rw [HMT.out, HE.out], by go_num, rfl⟩
    · have hje : k = c.length := by omega
      rw [hje, List.take_length]
      clear hje
      go_wp2
      go_ret
      exact ⟨rfl, rfl⟩
end Go.Proofs.YtjajafeaengnjaaGreatDoor
set_option linter.unusedSimpArgs false
set_option linter.unusedVariables false
namespace Go.Proofs.YtjajafeaengnjaaGreatDoor
open Go Go.RowKit

/-- how Stands says it -/
def StOk (L c : List Int) (k o : Int) : Prop := (kd L c = some 0 ∧ k = 2 ∧ o = 0) ∨ (∃ l, l ≠ 0 ∧ kd L c = some l ∧ k = 3 ∧ o = l) ∨ (kd L c = none ∧ (k = 0 ∨ k = 1) ∧ o = 0)
/-- a clause, as far as it was looked at -/
def Sd (L c : List Int) (j : Nat) (o : Int) : Prop := (∀ m ∈ c.take j, m ∉ L) ∧ ((o = 0 ∧ ∀ m ∈ c.take j, -m ∈ L) ∨ (o ≠ 0 ∧ o ∈ c.take j ∧ -o ∉ L ∧ ∀ m ∈ c.take j, m ≠ o → -m ∈ L))
theorem Sd.start (L c : List Int) : Sd L c 0 0 := ⟨by simp, .inl ⟨rfl, by simp⟩⟩
theorem Sd.no {L c : List Int} {j : Nat} {o : Int} (h : Sd L c j o) (hj : j < c.length) (h1 : c.getD j 0 ∉ L) (h2 : -(c.getD j 0) ∈ L) : Sd L c (j + 1) o := by
  refine ⟨fun m hm => ?_, ?_⟩
  · rcases (mem_take_more hj).1 hm with a | a
    · exact h.1 m a
    · rw [a]; exact h1
  · rcases h.2 with ⟨a, b⟩ | ⟨a, b, d, f⟩
    · refine .inl ⟨a, fun m hm => ?_⟩
      rcases (mem_take_more hj).1 hm with e | e
      · exact b m e
      · rw [e]; exact h2
    · refine .inr ⟨a, (mem_take_more hj).2 (.inl b), d, fun m hm hne => ?_⟩
      rcases (mem_take_more hj).1 hm with e | e
      · exact f m e hne
      · rw [e]; exact h2
theorem Sd.yes {L c : List Int} {j : Nat} {o : Int} (h : Sd L c j o) (hj : j < c.length) (h0 : c.getD j 0 ≠ 0) (h1 : c.getD j 0 ∉ L) (h2 : -(c.getD j 0) ∉ L) (ho : o = 0 ∨ o = c.getD j 0) : Sd L c (j + 1) (c.getD j 0) := by
  refine ⟨fun m hm => ?_, .inr ⟨h0, (mem_take_more hj).2 (.inr rfl), h2, fun m hm hne => ?_⟩⟩
  · rcases (mem_take_more hj).1 hm with a | a
    · exact h.1 m a
    · rw [a]; exact h1
  · rcases (mem_take_more hj).1 hm with e | e
    · rcases h.2 with ⟨_, b⟩ | ⟨a, _, _, f⟩
      · exact b m e
      · rcases ho with q | q
        · exact absurd q a
        · exact f m e (by rw [q]; exact hne)
    · exact absurd e hne
set_option maxRecDepth 100000 in
set_option maxHeartbeats 1000000 in
theorem rStands_any (vc v : Value) (c : List Int) (t : Nat) (L : List Int) (w : World) (hr : Rd w vc c) (hv : Rd w v (vsL t L)) (ht : t ≤ 1048576) (hf : ∀ l ∈ c, fmd l = true ∧ l.natAbs ≤ t) (hc : Con L) :
    Calls Tryz.prog 76 #[vc, v] w fun e w' => ∃ k o, e = .returned (.tuple #[.int .i64 k, .int .i64 o]) ∧ StOk L c k o ∧ w' = w := by
  have hl := hr.len
  have HV : Hid (Rd w v (vsL t L) ∧ t ≤ 1048576 ∧ Con L) := ⟨hv, ht, hc⟩
  have HF : Hid (∀ l ∈ c, fmd l = true ∧ l.natAbs ≤ t) := hf
  obtain ⟨ad, cp, rfl, hcc, hm, hcell⟩ := hr.form
  have HC : Hid (∀ k, k < c.length → ∃ b off, ad = some ⟨b, off, none⟩ ∧ w.cell? ⟨b, off + k, none⟩ = some (.int .i64 (c.getD k 0))) := hcell
  clear hcell hr hf hv hc
  go_enter Tryz.func76, Tryz.ntmps76
  go_wp2
  go_loopg [6, 7] c.length (fun g o' i' wr => ∃ (k : Nat) (o : Int), k + g = c.length ∧ o' = .int .i64 o ∧ i' = .int .i64 k ∧ Sd L c k o ∧ wr = w)
  case atStart => exact ⟨0, 0, by omega, rfl, rfl, Sd.start _ _, rfl⟩
  case round =>
    obtain ⟨k, o, hk, rfl, rfl, hsd, hwr⟩ := hrel
    obtain rfl : w = wr := hwr.symm
    have HK : Hid (k + gk = c.length) := hk
    have HSd : Hid (Sd L c k o) := hsd
    clear hwr hsd
    by_cases hlt : k < c.length
    · obtain ⟨b, off, rfl, kc⟩ := HC.out k hlt
      have hfl := HF.out _ (getD_mem' (d := 0) hlt)
      have HMem : Hid (c.getD k 0 ∈ c) := getD_mem' hlt
      have HLT : Hid (k < c.length) := hlt
      have hl0 := (fmd_range hfl.1).1
      generalize hle : c.getD k 0 = l at *
      have HLE : Hid (c.getD k 0 = l) := hle
      have HFl : Hid (fmd l = true ∧ l.natAbs ≤ t) := hfl
      clear hk hle hfl
      go_wp2_with fail
      refine (rValue_any v t L l w HV.out.1 HV.out.2.1 HFl.out.1 HV.out.2.2 (.inl HFl.out.2)).mono ?_
      rintro e w9 ⟨rfl, hw9⟩
      obtain rfl : w = w9 := hw9.symm
      clear hw9
      rcases vl_range L l with hx | hx | hx
      · have HS : Hid (StOk L c 1 0) := .inr (.inr ⟨kd_true HMem.out (vl_one.1 hx), .inr rfl, rfl⟩)
        rw [hx]
        clear hx
        go_wp2
        go_ret2
        exact ⟨_, _, rfl, HS.out, rfl⟩
      · obtain ⟨h1, h2⟩ := vl_m1 hx
        have HS : Hid (Sd L c (k + 1) o) := HSd.out.no HLT.out (by rw [HLE.out]; exact h2) (by rw [HLE.out]; exact h1)
        rw [hx]
        clear hx h1 h2
        go_wp2
        go_roundg (gk - 1)
        case measure => have := HK.out; have := HLT.out; omega
        case rel => exact ⟨k + 1, o, by have := HK.out; have := HLT.out; omega, rfl, by go_num, HS.out, rfl⟩
      · obtain ⟨h1, h2⟩ := vl_zero.1 hx
        rw [hx]
        clear hx
        by_cases ho : o = 0 ∨ o = l
        · have HS : Hid (Sd L c (k + 1) l) := by
            have := HSd.out.yes HLT.out (by rw [HLE.out]; exact hl0) (by rw [HLE.out]; exact h1) (by rw [HLE.out]; exact h2) (by rw [HLE.out]; exact ho)
            rw [HLE.out] at this
            exact this
          clear h1 h2
          rcases ho with rfl | rfl
          · go_wp2
            go_roundg (gk - 1)
            case measure => have := HK.out; have := HLT.out; omega
            case rel => exact ⟨k + 1, l, by have := HK.out; have := HLT.out; omega, rfl, by go_num, HS.out, rfl⟩
          · have hoo : (o != o) = false := by simp
            have ho1 : (o == 0) = false := by simpa using hl0
            go_wp2
            go_roundg (gk - 1)
            case measure => have := HK.out; have := HLT.out; omega
            case rel => exact ⟨k + 1, o, by have := HK.out; have := HLT.out; omega, rfl, by go_num, HS.out, rfl⟩
        · have ho1 : o ≠ 0 ∧ o ≠ l := ⟨fun e => ho (.inl e), fun e => ho (.inr e)⟩
          have HS : Hid (StOk L c 0 0) := by
            rcases HSd.out.2 with ⟨a, _⟩ | ⟨_, b, d, _⟩
            · exact absurd a ho1.1
            · exact .inr (.inr ⟨kd_two (List.mem_of_mem_take b) HMem.out ho1.2 d h2, .inl rfl, rfl⟩)
          have hb1 : (o == 0) = false := by simpa using ho1.1
          have hb2 : (o == l) = false := by simpa using ho1.2
          obtain ⟨hn0, hnl⟩ := ho1
          have hb3 : (o != 0) = true := by simpa using hn0
          have hb4 : (o != l) = true := by simpa using hnl
          clear h1 h2 ho hn0 hnl hb1 hb2
          go_wp2
          go_ret2
          exact ⟨_, _, rfl, HS.out, rfl⟩
    · have hke : k = c.length := by omega
      have hsd := HSd.out
      unfold Sd at hsd
      rw [hke, List.take_length] at hsd
      clear hke
      obtain ⟨hno, ho⟩ := hsd
      rcases ho with ⟨rfl, hall⟩ | ⟨ho0, hoc, hon, hoth⟩
      · have HS : Hid (StOk L c 2 0) := .inl ⟨kd_false hall hno, rfl, rfl⟩
        clear hno hall
        go_wp2
        go_ret2
        exact ⟨_, _, rfl, HS.out, rfl⟩
      · have HS : Hid (StOk L c 3 o) := .inr (.inl ⟨o, ho0, kd_unit hoc hon hoth hno, rfl, rfl⟩)
        have hb1 : (o == 0) = false := by simpa using ho0
        clear hno hoc hon hoth
        go_wp2
        go_ret2
        exact ⟨_, _, rfl, HS.out, rfl⟩
/-- the greatest variable of a formula and some literals -/
def topL (css : List (List Int)) (facts : List Int) : Int := css.foldl mx (mx 0 facts)
theorem top_take (css : List (List Int)) (a : Int) {j : Nat} (h : j < css.length) : (css.take (j + 1)).foldl mx a = mx ((css.take j).foldl mx a) (css.getD j []) := by
  rw [List.take_succ_eq_append_getElem h, List.foldl_append, List.getD_eq_getElem?_getD, List.getElem?_eq_getElem h]; rfl
theorem fold_range (css : List (List Int)) : ∀ a : Int, 0 ≤ a → a ≤ 1048576 → 0 ≤ css.foldl mx a ∧ css.foldl mx a ≤ 1048576 ∧ a ≤ css.foldl mx a ∧ ∀ c ∈ css, ∀ l ∈ c, varOf l ≤ css.foldl mx a := by
  induction css with
  | nil => intro a h0 h1; exact ⟨h0, h1, Int.le_refl _, by simp⟩
  | cons x r ih =>
    intro a h0 h1
    obtain ⟨b1, b2, b3, b4⟩ := mx_range x a h0 h1
    obtain ⟨a1, a2, a3, a4⟩ := ih (mx a x) b1 b2
    refine ⟨a1, a2, by simp only [List.foldl_cons]; omega, fun c hc l hl => ?_⟩
    rcases List.mem_cons.1 hc with e | e
    · subst e; have := b4 l hl; simp only [List.foldl_cons]; omega
    · exact a4 c e l hl
theorem top_range (css : List (List Int)) (facts : List Int) : 0 ≤ topL css facts ∧ topL css facts ≤ 1048576 ∧ (∀ c ∈ css, ∀ l ∈ c, varOf l ≤ topL css facts) ∧ ∀ l ∈ facts, varOf l ≤ topL css facts := by
  obtain ⟨b1, b2, b3, b4⟩ := mx_range facts 0 (by omega) (by omega)
  obtain ⟨a1, a2, a3, a4⟩ := fold_range css (mx 0 facts) b1 b2
  exact ⟨a1, a2, a4, fun l hl => by have := b4 l hl; unfold topL; omega⟩
theorem var_abs {l : Int} (h : fmd l = true) : varOf l = l.natAbs := by
  have := fmd_range h
  unfold varOf; rw [if_pos h]; split <;> omega

set_option maxRecDepth 100000 in
theorem rValues_any (n : Int) (s vf : Value) (css : List (List Int)) (facts : List Int) (w : World) (hr : Rds w s css) (hf : Rd w vf facts) (h1 : ∀ c ∈ css, ∀ l ∈ c, fmd l = true) (h2 : ∀ l ∈ facts, fmd l = true) :
    Calls Tryz.prog 74 #[.agg #[.int .i64 n, s], vf] w fun e w' => ∃ g, e = .returned (.slice (some ⟨g, 0, none⟩) ((topL css facts).toNat + 1) ((topL css facts).toNat + 1)) ∧ Vz w.heap.size w' g ((topL css facts).toNat + 1) (topL css facts).toNat [] ∧ Below w.heap.size w w' := by
  have hl := hr.len
  have HX : Hid (Bx w n s css (w.alloc (.cells #[.int .i64 n, s] 24))) := Bx.new hr _
  have HRf : Hid (Rd w vf facts) := hf
  have HF1 : Hid (∀ c ∈ css, ∀ l ∈ c, fmd l = true) := h1
  have HF2 : Hid (∀ l ∈ facts, fmd l = true) := h2
  have HT : Hid (∀ k, 0 ≤ (css.take k).foldl mx (mx 0 facts) ∧ (css.take k).foldl mx (mx 0 facts) ≤ 1048576) := fun k => by
    obtain ⟨b1, b2, _, _⟩ := mx_range facts 0 (by omega) (by omega)
    obtain ⟨a1, a2, _, _⟩ := fold_range (css.take k) _ b1 b2
    exact ⟨a1, a2⟩
  obtain ⟨a, c, rfl, h3, h4, -⟩ := hr.form
  have HB : Hid (Below w.heap.size w (w.alloc (.cells #[.int .i64 n, .slice a css.length c] 24))) := below_box _ _
  clear hr hf h1 h2
  go_enter Tryz.func74, Tryz.ntmps74
  go_wp2_with fail
  refine (rGreatest_any vf facts 0 _ (HRf.out.below HB.out) HF2.out (by omega) (by omega)).mono ?_
  rintro e w1 ⟨rfl, hw1⟩
  obtain rfl := hw1
  generalize w.alloc (.cells #[.int .i64 n, .slice a css.length c] 24) = W0 at *
  go_wp2
  go_loopg [5, 6] css.length (fun g m' i' wr => ∃ k : Nat, k + g = css.length ∧ m' = .int .i64 ((css.take k).foldl mx (mx 0 facts)) ∧ i' = .int .i64 k ∧ wr = W0)
  case atStart => exact ⟨0, by omega, by simp, rfl, rfl⟩
  case round =>
    obtain ⟨k, hk, rfl, rfl, hwr⟩ := hrel
    obtain rfl : W0 = wr := hwr.symm
    have HK : Hid (k + gk = css.length) := hk
    have c0 := HX.out.c0
    have c1 := HX.out.c1
    have ht := HT.out k
    clear hwr hk
    by_cases hlt : k < css.length
    · obtain ⟨a', c', e', -, -, hAT⟩ := HX.out.rd.form
      injection e' with e1 _ e3
      subst e1
      subst e3
      obtain ⟨bb, off, u, rfl, kc, hrd⟩ := hAT k hlt
      have HRd : Hid (Rd W0 u (css.getD k []) ∧ ∀ l ∈ css.getD k [], fmd l = true) := ⟨hrd, HF1.out _ (getD_in hlt)⟩
      obtain ⟨au, cu, rfl, -, -, -⟩ := hrd.form
      have HTk : Hid ((css.take (k + 1)).foldl mx (mx 0 facts) = mx ((css.take k).foldl mx (mx 0 facts)) (css.getD k [])) := top_take css _ hlt
      have HLT : Hid (k < css.length) := hlt
      clear hrd hAT
      generalize css.getD k [] = ck at *
      generalize (css.take k).foldl mx (mx 0 facts) = m0 at *
      go_wp2_with fail
      refine (rGreatest_any _ ck m0 W0 HRd.out.1 HRd.out.2 ht.1 ht.2).mono ?_
      rintro e w9 ⟨rfl, hw9⟩
      obtain rfl : W0 = w9 := hw9.symm
      clear hw9
      go_wp2
      go_roundg (gk - 1)
      case measure => have := HK.out; have := HLT.out; omega
      case rel => exact ⟨k + 1, by have := HK.out; have := HLT.out; omega, by rw [HTk.out], by go_num, rfl⟩
    · have hje : k = css.length := by have := HK.out; omega
      rw [hje, List.take_length] at ht ⊢
      clear hje
      have HTop : Hid (css.foldl mx (mx 0 facts) = topL css facts) := rfl
      obtain ⟨T, hT⟩ : ∃ T : Nat, css.foldl mx (mx 0 facts) = (T : Int) := ⟨(css.foldl mx (mx 0 facts)).toNat, by omega⟩
      have HTT : Hid ((topL css facts).toNat = T) := by show _ = _; unfold topL; rw [hT]; simp
      rw [hT] at ht ⊢
      have hmk := run_make_row' (P := Tryz.prog) 25 3 (.int .i64 0) 8 Tryz.underlying25 Tryz.info3 rfl .i64 .i64 (T + 1) (by omega) (by omega)
      have e1 : ((T + 1 : Nat) : Int) = (T : Int) + 1 := by omega
      rw [e1] at hmk
      have hw1 : IntKind.i64.wrap ((T : Int) + 1) = (T : Int) + 1 := by rw [IntKind.wrap_i64]; omega
      have HF : Hid (Vz w.heap.size (W0.alloc (.cells (madeCells #[.int .i64 0] (T + 1)) 3)) W0.heap.size (T + 1) T [] ∧ Below w.heap.size w (W0.alloc (.cells (madeCells #[.int .i64 0] (T + 1)) 3))) := by
        refine ⟨⟨by simp [vsL_len], .inr ⟨W0.heap.size, T + 1, _, rfl, HB.out.size, World.alloc_heap_new W0 _, Nat.le_refl _, by unfold maxLen; omega, by rw [made_zero6]; simp, ?_⟩⟩, Below.step HB.out (below_box _ _)⟩
        rw [made_zero6]
        apply List.ext_getElem (by simp [vsL_len])
        intro i h5 h6
        simp [vsL, vl]
      clear hT
      go_wp2
      go_ret
      exact ⟨W0.heap.size, by rw [HTT.out]; rfl, by rw [HTT.out]; exact HF.out.1, HF.out.2⟩
end Go.Proofs.YtjajafeaengnjaaGreatDoor
set_option linter.unusedSimpArgs false
set_option linter.unusedVariables false
namespace Go.Proofs.YtjajafeaengnjaaGreatDoor
open Go Go.RowKit

/-- all literals are formed, and of the variables up to t -/
def Upt (t : Nat) (L : List Int) : Prop := ∀ l ∈ L, fmd l = true ∧ l.natAbs ≤ t
theorem Upt.zero {t : Nat} {L : List Int} (h : Upt t L) : (0 : Int) ∉ L := fun h0 => (fmd_range (h 0 h0).1).1 rfl
theorem upt_facts {css : List (List Int)} {facts : List Int} (h : facts.all fmd = true) : Upt (topL css facts).toNat facts := fun l hl => by
  have hf := List.all_eq_true.1 h l hl
  have h1 := (top_range css facts).2.2.2 l hl
  rw [var_abs hf] at h1
  exact ⟨hf, by omega⟩
theorem upt_css {n : Int} {css : List (List Int)} {facts : List Int} (h : frm n css = true) : ∀ c ∈ css, Upt (topL css facts).toNat c := fun c hc l hl => by
  have hf := frm_fmd h c hc l hl
  have h1 := (top_range css facts).2.2.1 c hc l hl
  rw [var_abs hf] at h1
  exact ⟨hf, by omega⟩
theorem Con.take {L : List Int} {j : Nat} (h : Con L) : Con (L.take j) := fun l h1 h2 => h l (List.mem_of_mem_take h1) (List.mem_of_mem_take h2)
set_option maxRecDepth 100000 in
set_option maxHeartbeats 1000000 in
theorem rGiven_any (n : Int) (s vf : Value) (css : List (List Int)) (facts : List Int) (w : World) (hr : Rds w s css) (hf : Rd w vf facts) (h1 : frm n css = true) (h2 : facts.all fmd = true) :
    Calls Tryz.prog 54 #[.agg #[.int .i64 n, s], vf] w fun e w' => ∃ g, e = .returned (.tuple #[.slice (some ⟨g, 0, none⟩) ((topL css facts).toNat + 1) ((topL css facts).toNat + 1), .bool (!adj (tid facts))]) ∧ (adj (tid facts) = false → Vz w.heap.size w' g ((topL css facts).toNat + 1) (topL css facts).toNat facts) ∧ Below w.heap.size w w' := by
  have hlf := hf.len
  have HR : Hid (Rds w s css ∧ Rd w vf facts ∧ frm n css = true ∧ facts.all fmd = true) := ⟨hr, hf, h1, h2⟩
  have HU : Hid (Upt (topL css facts).toNat facts ∧ (topL css facts).toNat ≤ 1048576) := ⟨upt_facts h2, by have := (top_range css facts).2.1; omega⟩
  have HAd : Hid (adj (tid facts) = false ↔ Con facts) := adj_con h2
  obtain ⟨af, cf, rfl, hl1, hl2, hcf⟩ := hf.form
  have HCf : Hid (∀ (W : World) (j : Nat), Below w.heap.size w W → j < facts.length → ∃ bb off, af = some ⟨bb, off, none⟩ ∧ W.cell? ⟨bb, off + j, none⟩ = some (.int .i64 (facts.getD j 0))) := fun W j hW hj => by
    obtain ⟨bb, off, e, hc⟩ := hcf j hj
    exact ⟨bb, off, e, (hW.cell (p := ⟨bb, off + j, none⟩) (World.block_lt_of_cell? w _ hc)).trans hc⟩
  clear hr hf hcf h1 h2
  go_enter Tryz.func54, Tryz.ntmps54
  go_wp2_with fail
  refine (rValues_any n s _ css facts _ (HR.out.1.below (below_box _ _)) (HR.out.2.1.below (below_box _ _)) (frm_fmd HR.out.2.2.1) (fun l hl => List.all_eq_true.1 HR.out.2.2.2 l hl)).mono ?_
  rintro e w1 ⟨g, rfl, hv, hb⟩
  have HV : Hid (Vz w.heap.size w1 g ((topL css facts).toNat + 1) (topL css facts).toNat (facts.take 0) ∧ Below w.heap.size w w1 ∧ w.heap.size ≤ g) := ⟨row_mono hv (below_box _ _).size, Below.step (below_box _ _) hb, Nat.le_trans (below_box w _).size (hv.lt g rfl).1⟩
  clear hv hb
  generalize hTe : (topL css facts).toNat = T at *
  have HTT : Hid ((topL css facts).toNat = T) := hTe
  clear hTe
  go_wp2
  go_loopg [7] facts.length (fun q i' wr => ∃ k : Nat, k + q = facts.length ∧ i' = .int .i64 k ∧ Con (facts.take k) ∧ Vz w.heap.size wr g (T + 1) T (facts.take k) ∧ Below w.heap.size w wr)
  case atStart => exact ⟨0, by omega, rfl, by intro l hl; simp at hl, HV.out.1, HV.out.2.1⟩
  case round =>
    obtain ⟨k, hk, rfl, hcon, hv, hb⟩ := hrel
    have HK : Hid (k + gk = facts.length) := hk
    have HS : Hid (Con (facts.take k) ∧ Vz w.heap.size wr g (T + 1) T (facts.take k) ∧ Below w.heap.size w wr) := ⟨hcon, hv, hb⟩
    clear hk hcon hv hb
    by_cases hlt : k < facts.length
    · obtain ⟨bb, off, rfl, kc⟩ := HCf.out wr k HS.out.2.2 hlt
      have HL : Hid (fmd (facts.getD k 0) = true ∧ (facts.getD k 0).natAbs ≤ T) := HU.out.1 _ (getD_mem' hlt)
      have HT : Hid (facts.take (k + 1) = facts.take k ++ [facts.getD k 0]) := take_succ_getD facts 0 k hlt
      have HMem : Hid (facts.getD k 0 ∈ facts) := getD_mem' hlt
      have HLT : Hid (k < facts.length) := hlt
      generalize facts.getD k 0 = l at *
      have HZ : Hid ((0 : Int) ∉ facts.take k) := fun h0 => HU.out.1.zero (List.mem_of_mem_take h0)
      go_wp2_with fail
      refine (rValue_any _ T (facts.take k) l wr (HS.out.2.1.rd HU.out.2) HU.out.2 HL.out.1 HS.out.1 (.inl HL.out.2)).mono ?_
      rintro e w9 ⟨rfl, hw9⟩
      obtain rfl : wr = w9 := hw9.symm
      clear hw9
      by_cases hm : vl (facts.take k) l = -1
      · have HA : Hid (adj (tid facts) = true) := by
          cases e : adj (tid facts)
          · exact absurd (List.mem_of_mem_take (vl_m1 hm).1) (HAd.out.1 e l HMem.out)
          · rfl
        rw [hm]
        clear hm
        go_wp2
        go_ret2
        exact ⟨g, (by rw [HA.out, HTT.out]; rfl), (fun h => (by rw [HA.out] at h; cases h)), HS.out.2.2⟩
      · have HN : Hid (-l ∉ facts.take k) := fun h => by
          rcases vl_range (facts.take k) l with a | a | a
          · exact HS.out.1 l (vl_one.1 a) h
          · exact hm a
          · exact (vl_zero.1 a).2 h
        have hx : (vl (facts.take k) l == -1) = false := by simpa using hm
        generalize vl (facts.take k) l = x at *
        go_wp2_with fail
        refine (rPut_any w.heap.size g (T + 1) T (facts.take k) l wr HS.out.2.1 HU.out.2 HL.out.1 HN.out HZ.out HL.out.2).mono ?_
        rintro e w5 ⟨rfl, hv5, hg5⟩
        have HF : Hid (Con (facts.take (k + 1)) ∧ Vz w.heap.size w5 g (T + 1) T (facts.take (k + 1)) ∧ Below w.heap.size w w5) := by
          rw [HT.out]
          exact ⟨HS.out.1.snoc (fmd_range HL.out.1).1 HN.out, hv5, HS.out.2.2.grown hg5 HS.out.2.2.size (fun q e => by injection e with e; subst e; exact HV.out.2.2)⟩
        clear hv5 hg5 kc
        go_wp2
        go_roundg (gk - 1)
        case measure => have := HK.out; have := HLT.out; omega
        case rel => exact ⟨k + 1, by have := HK.out; have := HLT.out; omega, by go_num, HF.out.1, HF.out.2.1, HF.out.2.2⟩
    · have hke : k = facts.length := by have := HK.out; omega
      rw [hke, List.take_length] at HS
      have HA : Hid (adj (tid facts) = false) := HAd.out.2 HS.out.1
      clear hke
      go_wp2
      go_ret2
      exact ⟨g, (by rw [HA.out, HTT.out]; rfl), (fun _ => by rw [HTT.out]; exact HS.out.2.1), HS.out.2.2⟩

/-- what first answers -/
def FsOk (css : List (List Int)) (L : List Int) (i k o : Int) : Prop := (∃ j : Nat, At css L j 0 ∧ i = j ∧ k = 2 ∧ o = 0) ∨ (∃ (j : Nat) (l : Int), l ≠ 0 ∧ At css L j l ∧ i = j ∧ k = 3 ∧ o = l) ∨ (Calm css L ∧ i = -1 ∧ k = 0 ∧ o = 0)
end Go.Proofs.YtjajafeaengnjaaGreatDoor
set_option linter.unusedSimpArgs false
set_option linter.unusedVariables false
namespace Go.Proofs.YtjajafeaengnjaaGreatDoor
open Go Go.RowKit

theorem Pth.upt {css : List (List Int)} {L : List Int} {cs : List (Int × Nat)} {t : Nat} (h : Pth css L cs) (hL : Upt t L) (hc : ∀ c ∈ css, Upt t c) : Upt t (L ++ cs.map Prod.fst) := fun l hl => by
  rcases List.mem_append.1 hl with a | a
  · exact hL l a
  · obtain ⟨c, h1, h2⟩ := h.new.2.2 l a
    exact hc c h1 l h2
end Go.Proofs.YtjajafeaengnjaaGreatDoor
set_option linter.unusedSimpArgs false
set_option linter.unusedVariables false
namespace Go.Proofs.YtjajafeaengnjaaGreatDoor
open Go Go.RowKit

/-- what is true so far, on the way from some facts -/
structure Ri (css : List (List Int)) (facts : List Int) (t : Nat) (L : List Int) : Prop where
  con : Con L
  had : ∀ x ∈ facts, x ∈ L
  der : ∀ x ∈ L, Der css facts x
  upt : Upt t L
theorem Ri.put {css : List (List Int)} {facts : List Int} {t : Nat} {L : List Int} {k : Nat} {l : Int} (h : Ri css facts t L) (hk : k < css.length) (h0 : l ≠ 0) (hkd : kd L (css.getD k []) = some l) (hu : ∀ c ∈ css, Upt t c) : Ri css facts t (L ++ [l]) ∧ -l ∉ L ∧ l ∉ L ∧ l ∈ css.getD k [] := by
  rcases kd_cases L (css.getD k []) with ⟨e, _⟩ | ⟨e, _, _⟩ | ⟨l', e, h1, h2, h3, h4⟩
  · rw [hkd] at e; cases e
  · rw [hkd] at e; injection e with e; exact absurd e h0
  · rw [hkd] at e; injection e with e; subst e
    refine ⟨⟨h.con.snoc h0 h2, fun x hx => List.mem_append.2 (.inl (h.had x hx)), fun x hx => ?_, fun x hx => ?_⟩, h2, h4 _ h1, h1⟩
    · rcases List.mem_append.1 hx with a | a
      · exact h.der x a
      · rw [show x = l by simpa using a]
        exact .unit (getD_in hk) h1 fun m hm hne => h.der _ (h3 m hm hne)
    · rcases List.mem_append.1 hx with a | a
      · exact h.upt x a
      · rw [show x = l by simpa using a]; exact hu _ (getD_in hk) l h1
theorem Ri.clash {css : List (List Int)} {facts : List Int} {t : Nat} {L : List Int} {k : Nat} (h : Ri css facts t L) (hk : k < css.length) (nz : Nz css) (hkd : kd L (css.getD k []) = some 0) : Cla css facts := by
  rcases kd_cases L (css.getD k []) with ⟨e, _⟩ | ⟨e, h1, _⟩ | ⟨l', e, h1, h2, h3, h4⟩
  · rw [hkd] at e; cases e
  · exact .inr ⟨_, getD_in hk, fun m hm => h.der _ (h1 m hm)⟩
  · rw [hkd] at e; injection e with e; subst e; exact absurd rfl (nz _ (getD_in hk) _ h1)
theorem Ri.fin {css : List (List Int)} {facts : List Int} {t : Nat} {L : List Int} (h : Ri css facts t L) (hc : Calm css L) : ¬ Cla css facts ∧ ∀ x, Der css facts x ↔ x ∈ L := by
  obtain ⟨h1, h2⟩ := calm_der h.con hc
  have hin : ∀ x ∈ facts, Der css L x := fun x hx => .fact (h.had x hx)
  exact ⟨fun h3 => h2 (h3.trans hin), fun x => ⟨fun h3 => h1 x (h3.trans hin), h.der x⟩⟩
theorem mes_put {css : List (List Int)} {L : List Int} {k : Nat} {l : Int} (hk : k < css.length) (hl : l ∈ css.getD k []) (hL : l ∉ L) : mes css (L ++ [l]) < mes css L :=
  filter_lt (x := l) (fun y _ hy => by
    rw [decide_eq_true_eq] at hy ⊢
    exact fun h2 => hy (List.mem_append.2 (.inl h2))) (List.mem_flatten.2 ⟨_, getD_in hk, hl⟩) (decide_eq_true hL) (by simp)
/-- where a round stands -/
structure Rd6 (css : List (List Int)) (facts : List Int) (t : Nat) (L L' : List Int) (n : Nat) (k : Nat) : Prop where
  ri : Ri css facts t L'
  no : n = 0 → L' = L ∧ ∀ j, j < k → kd L (css.getD j []) = none
  yes : 0 < n → mes css L' < mes css L
  few : n ≤ k
set_option maxRecDepth 100000 in
set_option maxHeartbeats 2000000 in
theorem rRound_any (B g t : Nat) (v : Int) (s : Value) (css : List (List Int)) (facts L : List Int) (w : World) (hr : Rds w s css) (hv : Vz B w g (t + 1) t L) (ht : t ≤ 1048576) (hu : ∀ c ∈ css, Upt t c) (hi : Ri css facts t L) (hN : css.length ≤ 1073741824) (hap : ∀ W, w.grownBy W (some g) → Rds W s css) :
    Calls Tryz.prog 55 #[.agg #[.int .i64 v, s], .slice (some ⟨g, 0, none⟩) (t + 1) (t + 1)] w fun e w' => ∃ (n : Nat) (clash : Bool) (L' : List Int), e = .returned (.tuple #[.int .i64 (n : Int), .bool clash]) ∧ Vz B w' g (t + 1) t L' ∧ Ri css facts t L' ∧ mes css L' ≤ mes css L ∧ (clash = true → Cla css facts) ∧ (clash = false → n = 0 → Calm css L') ∧ (0 < n → mes css L' < mes css L) ∧ w.grownBy w' (some g) ∧ n ≤ css.length := by
  have HU : Hid ((∀ c ∈ css, Upt t c) ∧ t ≤ 1048576 ∧ Nz css) := ⟨hu, ht, fun c hc l hl => (fmd_range (hu c hc l hl).1).1⟩
  have HBel : Hid (w.grownBy (w.alloc (.cells #[.int .i64 v, s] 24)) (some g)) := ⟨rfl, rfl, rfl, (below_box w _).size, fun k hk _ => (below_box w _).block k hk⟩
  have HAp : Hid (∀ W, w.grownBy W (some g) → Rds W s css) := hap
  have hgl : g < w.heap.size := (hv.lt g rfl).2
  have k0 := box0 w (.int .i64 v) s 24
  have k1 := box1 w (.int .i64 v) s 24
  have HX0 : Hid (∀ W, (w.alloc (.cells #[.int .i64 v, s] 24)).grownBy W (some g) → W.cell? ⟨w.heap.size, 0, none⟩ = some (.int .i64 v) ∧ W.cell? ⟨w.heap.size, 1, none⟩ = some s) := fun W hW => by
    have hb := hW.block w.heap.size (by rw [World.size_alloc]; exact Nat.lt_succ_self _) (fun e => by injection e with e; omega)
    have hc : ∀ o, W.cell? ⟨w.heap.size, o, none⟩ = (w.alloc (.cells #[.int .i64 v, s] 24)).cell? ⟨w.heap.size, o, none⟩ := fun o => by simp only [World.cell?, hb]
    exact ⟨(hc 0).trans k0, (hc 1).trans k1⟩
  obtain ⟨aS, cS, rfl, hl3, hl4, -⟩ := hr.form
  have HS0 : Hid (Vz B (w.alloc (.cells #[.int .i64 v, .slice aS css.length cS] 24)) g (t + 1) t L ∧ Rd6 css facts t L L 0 0) := ⟨hv.below (below_box _ _), ⟨hi, fun _ => ⟨rfl, fun j hj => by omega⟩, fun h => by omega, Nat.le_refl _⟩⟩
  clear hr hv ht hu hi hap k0 k1 hgl
  go_enter Tryz.func55, Tryz.ntmps55
  go_wp2
  generalize w.alloc (.cells #[.int .i64 v, .slice aS css.length cS] 24) = W0 at *
  go_loopg [6, 7] css.length (fun q n' i' wr => ∃ (n k : Nat) (L' : List Int), k + q = css.length ∧ n' = .int .i64 (n : Int) ∧ i' = .int .i64 (k : Int) ∧ Rd6 css facts t L L' n k ∧ Vz B wr g (t + 1) t L' ∧ W0.grownBy wr (some g))
  case atStart => exact ⟨0, 0, L, by omega, rfl, rfl, HS0.out.2, HS0.out.1, ⟨rfl, rfl, rfl, Nat.le_refl _, fun _ _ _ => rfl⟩⟩
  case round =>
    obtain ⟨n, k, L', hk, rfl, rfl, hrd, hv, hgb⟩ := hrel
    have HK : Hid (k + gk = css.length) := hk
    have HS : Hid (Rd6 css facts t L L' n k ∧ Vz B wr g (t + 1) t L' ∧ W0.grownBy wr (some g)) := ⟨hrd, hv, hgb⟩
    have hfew := hrd.few
    have HG : Hid (w.grownBy wr (some g)) := ⟨hgb.os.trans HBel.out.os, hgb.tape.trans HBel.out.tape, hgb.output.trans HBel.out.output, Nat.le_trans HBel.out.size hgb.size, fun q hq hne => (hgb.block q (Nat.lt_of_lt_of_le hq HBel.out.size) hne).trans (HBel.out.block q hq hne)⟩
    obtain ⟨c0, c1⟩ := HX0.out wr hgb
    have HRds : Hid (Rds wr (.slice aS css.length cS) css) := HAp.out wr HG.out
    have HMes : Hid (mes css L' ≤ mes css L) := by
      by_cases h0 : 0 < n
      · exact Nat.le_of_lt (hrd.yes h0)
      · rw [(hrd.no (by omega)).1]; exact Nat.le_refl _
    clear hk hrd hv hgb
    by_cases hlt : k < css.length
    · obtain ⟨a', c', e', -, -, hAT⟩ := HRds.out.form
      injection e' with e1 _ e3
      subst e1
      subst e3
      obtain ⟨bb, off, u, rfl, kc, hrd⟩ := hAT k hlt
      have HRd : Hid (Rd wr u (css.getD k [])) := hrd
      obtain ⟨au, cu, rfl, -, -, -⟩ := hrd.form
      have HLT : Hid (k < css.length) := hlt
      have HSt : Hid (Calls Tryz.prog 76 #[.slice au (css.getD k []).length cu, .slice (some ⟨g, 0, none⟩) (t + 1) (t + 1)] wr fun e w' => ∃ k1 o, e = .returned (.tuple #[.int .i64 k1, .int .i64 o]) ∧ StOk L' (css.getD k []) k1 o ∧ w' = wr) := rStands_any (.slice au (css.getD k []).length cu) _ (css.getD k []) t L' wr HRd.out (HS.out.2.1.rd HU.out.2.1) HU.out.2.1 (HU.out.1 _ (getD_in hlt)) HS.out.1.ri.con
      clear hrd hAT
      generalize hck : css.getD k [] = ck at *
      have HCk : Hid (css.getD k [] = ck) := hck
      clear hck
      go_wp2_with fail
      refine HSt.out.mono ?_
      rintro e w9 ⟨kk, o, rfl, hst, hw9⟩
      obtain rfl : wr = w9 := hw9.symm
      clear hw9
      rcases hst with ⟨hkd, rfl, rfl⟩ | ⟨l, hl0, hkd, rfl, rfl⟩ | ⟨hkd, hkk, rfl⟩
      · have HC : Hid (Cla css facts) := HS.out.1.ri.clash HLT.out HU.out.2.2 (by rw [HCk.out]; exact hkd)
        clear hkd
        go_wp2
        go_ret2
        exact ⟨n, true, L', rfl, HS.out.2.1, HS.out.1.ri, HMes.out, fun _ => HC.out, fun h => Bool.noConfusion h, HS.out.1.yes, HG.out, by have := HS.out.1.few; have := HLT.out; omega⟩
      · obtain ⟨hri, hn1, hn2, hn3⟩ := HS.out.1.ri.put HLT.out hl0 (by rw [HCk.out]; exact hkd) HU.out.1
        have HP : Hid (Ri css facts t (L' ++ [o]) ∧ -o ∉ L' ∧ o ∉ L' ∧ o ∈ css.getD k []) := ⟨hri, hn1, hn2, hn3⟩
        have HOu : Hid (fmd o = true ∧ o.natAbs ≤ t) := HU.out.1 _ (getD_in HLT.out) o hn3
        clear hkd hri hn1 hn2 hn3
        go_wp2_with fail
        refine (rPut_any B g (t + 1) t L' o wr HS.out.2.1 HU.out.2.1 HOu.out.1 HP.out.2.1 HS.out.1.ri.upt.zero HOu.out.2).mono ?_
        rintro e w5 ⟨rfl, hv5, hg5⟩
        have HF : Hid (Rd6 css facts t L (L' ++ [o]) (n + 1) (k + 1) ∧ Vz B w5 g (t + 1) t (L' ++ [o]) ∧ W0.grownBy w5 (some g)) := by
          refine ⟨⟨HP.out.1, fun h => by omega, fun _ => Nat.lt_of_lt_of_le (mes_put HLT.out HP.out.2.2.2 HP.out.2.2.1) HMes.out, by have := HS.out.1.few; omega⟩, hv5, ?_⟩
          have h1 := HS.out.2.2
          exact ⟨hg5.os.trans h1.os, hg5.tape.trans h1.tape, hg5.output.trans h1.output, Nat.le_trans h1.size hg5.size, fun q hq hne => (hg5.block q (Nat.lt_of_lt_of_le hq h1.size) hne).trans (h1.block q hq hne)⟩
        have hwn : IntKind.i64.wrap ((n : Int) + 1) = (n : Int) + 1 := by rw [IntKind.wrap_i64]; omega
        clear hv5 hg5 c0 c1 kc
        go_wp2
        go_roundg (gk - 1)
        case measure => have := HK.out; have := HLT.out; omega
        case rel => exact ⟨n + 1, k + 1, L' ++ [o], by have := HK.out; have := HLT.out; omega, by go_num, by go_num, HF.out.1, HF.out.2.1, HF.out.2.2⟩
      · have HF : Hid (Rd6 css facts t L L' n (k + 1)) := ⟨HS.out.1.ri, fun h0 => by
          obtain ⟨h1, h2⟩ := HS.out.1.no h0
          refine ⟨h1, fun j hj => ?_⟩
          by_cases e : j = k
          · subst e; rw [HCk.out, ← h1]; exact hkd
          · exact h2 j (by omega), HS.out.1.yes, by have := HS.out.1.few; omega⟩
        clear hkd
        rcases hkk with rfl | rfl
        · go_wp2
          go_roundg (gk - 1)
          case measure => have := HK.out; have := HLT.out; omega
          case rel => exact ⟨n, k + 1, L', by have := HK.out; have := HLT.out; omega, rfl, by go_num, HF.out, HS.out.2.1, HS.out.2.2⟩
        · go_wp2
          go_roundg (gk - 1)
          case measure => have := HK.out; have := HLT.out; omega
          case rel => exact ⟨n, k + 1, L', by have := HK.out; have := HLT.out; omega, rfl, by go_num, HF.out, HS.out.2.1, HS.out.2.2⟩
    · have HCm : Hid (n = 0 → Calm css L') := fun h0 j hj => by
        obtain ⟨h1, h2⟩ := HS.out.1.no h0
        rw [h1]
        exact h2 j (by have := HK.out; omega)
      go_wp2
      go_ret2
      exact ⟨n, false, L', rfl, HS.out.2.1, HS.out.1.ri, HMes.out, fun h => Bool.noConfusion h, fun _ => HCm.out, HS.out.1.yes, HG.out, by have := HS.out.1.few; have := HK.out; omega⟩

theorem rds_apart {w W : World} {s : Value} {css : List (List Int)} {g B : Nat} (hr : ∀ W0, Below B w W0 → Rds W0 s css) (hg : B ≤ g) (h : w.grownBy W (some g)) (hB : B ≤ w.heap.size) : Rds W s css :=
  hr W ⟨h.os, h.tape, h.output, h.size, fun k hk => h.block k (by omega) (fun e => by injection e with e; omega)⟩
/-- what Closing answers -/
def Cg (w : World) (css : List (List Int)) (facts : List Int) (e : Ending) (w' : World) : Prop := ∃ (g : Nat) (clash : Bool), e = .returned (.tuple #[.slice (some ⟨g, 0, none⟩) ((topL css facts).toNat + 1) ((topL css facts).toNat + 1), .bool clash]) ∧ Below w.heap.size w w' ∧ (clash = true → Cla css facts) ∧ (clash = false → ∃ L, Vz w.heap.size w' g ((topL css facts).toNat + 1) (topL css facts).toNat L ∧ Con L ∧ Upt (topL css facts).toNat L ∧ ¬ Cla css facts ∧ ∀ x, Der css facts x ↔ x ∈ L)
set_option maxRecDepth 100000 in
set_option maxHeartbeats 2000000 in
theorem rClosing_any (v : Int) (s vf : Value) (css : List (List Int)) (facts : List Int) (w : World) (hr : Rds w s css) (hf : Rd w vf facts) (h1 : frm v css = true) (h2 : facts.all fmd = true) (hN : css.length ≤ 1073741824) :
    Calls Tryz.prog 41 #[.agg #[.int .i64 v, s], vf] w fun e w' => Cg w css facts e w' := by
  have HR : Hid (Rds w s css ∧ Rd w vf facts ∧ frm v css = true ∧ facts.all fmd = true) := ⟨hr, hf, h1, h2⟩
  have HUp : Hid (Upt (topL css facts).toNat facts ∧ (∀ c ∈ css, Upt (topL css facts).toNat c) ∧ (topL css facts).toNat ≤ 1048576) := ⟨upt_facts h2, upt_css h1, by have := (top_range css facts).2.1; omega⟩
  have HAd : Hid (adj (tid facts) = false ↔ Con facts) := adj_con h2
  have HB1 : Hid (Below w.heap.size w (w.alloc (.cells #[.int .i64 v, s] 24))) := below_box _ _
  have k0 := box0 w (.int .i64 v) s 24
  have k1 := box1 w (.int .i64 v) s 24
  have hbs : w.heap.size < (w.alloc (.cells #[.int .i64 v, s] 24)).heap.size := by rw [World.size_alloc]; exact Nat.lt_succ_self _
  have HX0 : Hid (∀ W, Below (w.alloc (.cells #[.int .i64 v, s] 24)).heap.size (w.alloc (.cells #[.int .i64 v, s] 24)) W → W.cell? ⟨w.heap.size, 0, none⟩ = some (.int .i64 v) ∧ W.cell? ⟨w.heap.size, 1, none⟩ = some s) := fun W hW => ⟨(hW.cell (p := ⟨w.heap.size, 0, none⟩) hbs).trans k0, (hW.cell (p := ⟨w.heap.size, 1, none⟩) hbs).trans k1⟩
  obtain ⟨aS, cS, rfl, hl3, hl4, -⟩ := hr.form
  clear hr hf h1 h2 k0 k1 hbs
  go_enter Tryz.func41, Tryz.ntmps41
  go_wp2_with fail
  refine (rGiven_any v _ _ css facts _ (HR.out.1.below (below_box _ _)) (HR.out.2.1.below (below_box _ _)) HR.out.2.2.1 HR.out.2.2.2).mono ?_
  rintro e w2 ⟨g, rfl, hvz, bel2⟩
  generalize w.alloc (.cells #[.int .i64 v, .slice aS css.length cS] 24) = W0 at *
  have HB2 : Hid (Below W0.heap.size W0 w2) := bel2
  generalize hTe : (topL css facts).toNat = T at *
  have HTT : Hid ((topL css facts).toNat = T) := hTe
  clear hTe
  cases had : adj (tid facts)
  · have HCon : Hid (Con facts) := HAd.out.1 had
    have HVz : Hid (Vz W0.heap.size w2 g (T + 1) T facts ∧ W0.heap.size ≤ g) := ⟨hvz had, ((hvz had).lt g rfl).1⟩
    have HRi : Hid (Ri css facts T facts) := ⟨HCon.out, fun x h => h, fun x h => .fact h, HUp.out.1⟩
    clear hvz bel2 had
    go_wp2
    go_loopg [8, 9] (2 * mes css facts + 1) (fun q n' c' wr => ∃ (n : Nat) (cl : Bool) (L : List Int), q = 2 * mes css L + (if 0 < n ∧ cl = false then 1 else 0) ∧ n' = .int .i64 (n : Int) ∧ c' = .bool cl ∧ Ri css facts T L ∧ Vz W0.heap.size wr g (T + 1) T L ∧ Below W0.heap.size W0 wr ∧ (cl = true → Cla css facts) ∧ (cl = false → n = 0 → Calm css L) ∧ n ≤ 1073741824)
    case atStart => exact ⟨1, false, facts, by simp, rfl, rfl, HRi.out, HVz.out.1, HB2.out, fun h => Bool.noConfusion h, fun _ h => by omega, by omega⟩
    case round =>
      obtain ⟨n, cl, L, hq, rfl, rfl, hri, hv, hb, hcl, hcm, hnb⟩ := hrel
      have HQ : Hid (gk = 2 * mes css L + (if 0 < n ∧ cl = false then 1 else 0)) := hq
      have HS : Hid (Ri css facts T L ∧ Vz W0.heap.size wr g (T + 1) T L ∧ Below W0.heap.size W0 wr ∧ (cl = true → Cla css facts) ∧ (cl = false → n = 0 → Calm css L)) := ⟨hri, hv, hb, hcl, hcm⟩
      obtain ⟨c0, c1⟩ := HX0.out wr hb
      clear hq hri hv hb hcl hcm
      cases cl
      · by_cases hn : 0 < n
        · have HRs : Hid (∀ W, Below W0.heap.size wr W → Rds W (.slice aS css.length cS) css) := fun W hW => HR.out.1.below (Below.step HB1.out (HS.out.2.2.1.trans hW))
          have HN : Hid (0 < n) := hn
          go_wp2_with fail
          refine (rRound_any W0.heap.size g T v _ css facts L wr (HRs.out wr (Below.refl _ _)) HS.out.2.1 HUp.out.2.2 HUp.out.2.1 HS.out.1 hN (fun W hW => rds_apart HRs.out HVz.out.2 hW HS.out.2.2.1.size)).mono ?_
          rintro e w3 ⟨n3, cl3, L3, rfl, hv3, hri3, hme3, hcl3, hcm3, hy3, hg3, hn3⟩
          have HN3 : Hid (n3 ≤ 1073741824) := Nat.le_trans hn3 hN
          have HF : Hid (Ri css facts T L3 ∧ Vz W0.heap.size w3 g (T + 1) T L3 ∧ Below W0.heap.size W0 w3 ∧ (cl3 = true → Cla css facts) ∧ (cl3 = false → n3 = 0 → Calm css L3)) := ⟨hri3, hv3, HS.out.2.2.1.grown hg3 HS.out.2.2.1.size (fun q e => by injection e with e; subst e; exact HVz.out.2), hcl3, hcm3⟩
          have HM : Hid (2 * mes css L3 + (if 0 < n3 ∧ cl3 = false then 1 else 0) < gk) := by
            have h5 := HQ.out
            rw [if_pos (by simpa using HN.out)] at h5
            show _ < gk
            split
            · rename_i h6; have := hy3 h6.1; omega
            · omega
          clear hv3 hri3 hme3 hcl3 hcm3 hy3 hg3 c0 c1 hn3
          go_wp2
          go_roundg (2 * mes css L3 + (if 0 < n3 ∧ cl3 = false then 1 else 0))
          case measure => exact HM.out
          case rel => exact ⟨n3, cl3, L3, rfl, rfl, rfl, HF.out.1, HF.out.2.1, HF.out.2.2.1, HF.out.2.2.2.1, HF.out.2.2.2.2, HN3.out⟩
        · have HFin := HS.out.1.fin (HS.out.2.2.2.2 rfl (by omega))
          have HFin : Hid (¬ Cla css facts ∧ ∀ x, Der css facts x ↔ x ∈ L) := HFin
          obtain rfl : n = 0 := by omega
          go_wp2
          go_ret2
          exact ⟨g, false, by rw [HTT.out]; rfl, Below.step HB1.out HS.out.2.2.1, fun h => Bool.noConfusion h, fun _ => ⟨L, by rw [HTT.out]; exact row_mono HS.out.2.1 HB1.out.size, HS.out.1.con, by rw [HTT.out]; exact HS.out.1.upt, HFin.out.1, HFin.out.2⟩⟩
      · have HC : Hid (Cla css facts) := HS.out.2.2.2.1 rfl
        go_wp2
        all_goals
          go_ret2
          exact ⟨g, true, by rw [HTT.out]; rfl, Below.step HB1.out HS.out.2.2.1, fun _ => HC.out, fun h => Bool.noConfusion h⟩
  · have HC : Hid (Cla css facts) := not_con_cla fun hc => by have := HAd.out.2 hc; rw [had] at this; cases this
    clear hvz
    go_wp2
    go_ret2
    exact ⟨g, true, by rw [HTT.out]; rfl, Below.step HB1.out HB2.out, fun _ => HC.out, fun h => Bool.noConfusion h⟩
end Go.Proofs.YtjajafeaengnjaaGreatDoor
