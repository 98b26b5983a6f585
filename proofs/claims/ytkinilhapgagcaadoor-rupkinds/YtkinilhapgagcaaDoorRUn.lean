/-
  unit, the document's answer: greatest, Values, Value, Put, Stands.
  KEEP: set on app at below new trans refl start ap kept rd rds mono lt add none own nil put len pos setF setV putL putR other neV same_any
-/
import Derived.Test.YtkinilhapgagcaaDoorUnA
set_option linter.unusedSimpArgs false
set_option linter.unusedVariables false
namespace Go.Proofs.YtkinilhapgagcaaDoor
open Go Go.RowKit

def vl (L : List Int) (l : Int) : Int := if l ∈ L then 1 else if -l ∈ L then -1 else 0
def vsL (t : Nat) (L : List Int) : List Int := (List.range (t + 1)).map (fun (v : Nat) => vl L (v : Int))
theorem vsL_len (t : Nat) (L : List Int) : (vsL t L).length = t + 1 := by simp [vsL]
theorem vsL_at {t : Nat} {L : List Int} {v : Nat} (h : v ≤ t) : (vsL t L)[v]? = some (vl L (v : Int)) := by
  unfold vsL; rw [List.getElem?_map, List.getElem?_range (by omega)]; rfl
theorem vl_neg {L : List Int} (hc : Con L) (l : Int) : vl L (-l) = -vl L l := by
  unfold vl
  rw [Int.neg_neg]
  by_cases h1 : l ∈ L
  · rw [if_neg (hc l h1), if_pos h1, if_pos h1]
  · by_cases h2 : -l ∈ L
    · rw [if_pos h2, if_neg h1, if_pos h2]; rfl
    · rw [if_neg h2, if_neg h1, if_neg h1, if_neg h2]; rfl
theorem vl_range (L : List Int) (l : Int) : vl L l = 1 ∨ vl L l = -1 ∨ vl L l = 0 := by
  unfold vl
  split
  · exact .inl rfl
  · split
    · exact .inr (.inl rfl)
    · exact .inr (.inr rfl)
theorem vl_one {L : List Int} {l : Int} : vl L l = 1 ↔ l ∈ L := by
  unfold vl
  constructor
  · intro h; by_cases h1 : l ∈ L
    · exact h1
    · rw [if_neg h1] at h; split at h <;> omega
  · intro h; rw [if_pos h]
theorem vl_zero {L : List Int} {l : Int} : vl L l = 0 ↔ l ∉ L ∧ -l ∉ L := by
  unfold vl
  by_cases h1 : l ∈ L
  · rw [if_pos h1]; simp [h1]
  · rw [if_neg h1]
    by_cases h2 : -l ∈ L
    · rw [if_pos h2]; simp [h2]
    · rw [if_neg h2]; simp [h1, h2]
theorem vl_m1 {L : List Int} {l : Int} (h : vl L l = -1) : -l ∈ L ∧ l ∉ L := by
  unfold vl at h
  by_cases h1 : l ∈ L
  · rw [if_pos h1] at h; omega
  · rw [if_neg h1] at h
    by_cases h2 : -l ∈ L
    · exact ⟨h2, h1⟩
    · rw [if_neg h2] at h; omega
theorem vsL_put {t : Nat} {L : List Int} {l : Int} (h0 : l ≠ 0) (hn : -l ∉ L) (hz : (0 : Int) ∉ L) (ht : l.natAbs ≤ t) : (vsL t L).set l.natAbs (if l < 0 then -1 else 1) = vsL t (L ++ [l]) := by
  apply List.ext_getElem?
  intro v
  by_cases hv : v ≤ t
  · by_cases e : l.natAbs = v
    · rw [e, List.getElem?_set_self (by rw [vsL_len]; omega), vsL_at hv]
      congr 1
      by_cases hs : l < 0
      · rw [if_pos hs]
        have e1 : (v : Int) = -l := by omega
        rw [e1]
        unfold vl
        rw [if_neg (by rw [List.mem_append, List.mem_singleton]; rintro (a | a); exact hn a; omega), if_pos (by simp)]
      · rw [if_neg hs]
        have e1 : (v : Int) = l := by omega
        rw [e1]
        unfold vl
        rw [if_pos (by simp)]
    · rw [List.getElem?_set_ne e, vsL_at hv, vsL_at hv]
      congr 1
      have e1 : ((v : Int) ∈ L ++ [l]) = ((v : Int) ∈ L) := by rw [List.mem_append, List.mem_singleton]; simp; intro e2; omega
      have e2 : (-(v : Int) ∈ L ++ [l]) = (-(v : Int) ∈ L) := by rw [List.mem_append, List.mem_singleton]; simp; intro e2; omega
      unfold vl
      simp only [e1, e2]
  · rw [List.getElem?_eq_none (by rw [List.length_set, vsL_len]; omega), List.getElem?_eq_none (by rw [vsL_len]; omega)]

set_option maxRecDepth 100000 in
theorem rValue_any (v : Value) (t : Nat) (L : List Int) (l : Int) (w : World) (hr : Rd w v (vsL t L)) (ht : t ≤ 1048576) (hf : fmd l = true) (hc : Con L) (hl : l.natAbs ≤ t ∨ (l ∉ L ∧ -l ∉ L)) :
    Calls Tryd.prog 85 #[v, .int .i64 l] w fun e w' => e = .returned (.int .i64 (vl L l)) ∧ w' = w := by
  obtain ⟨a, c, ev, h1, h2, hcell⟩ := hr.form
  rw [vsL_len] at ev h1 hcell
  subst ev
  have hfr := fmd_range hf
  have hwl : IntKind.i64.wrap (-l) = -l := by rw [IntKind.wrap_i64]; omega
  have hrg := vl_range L l
  by_cases hs : l < 0
  · by_cases hb : l.natAbs ≤ t
    · obtain ⟨bb, off, rfl, kc⟩ := hcell l.natAbs (by omega)
      have e1 : (vsL t L).getD l.natAbs 0 = -vl L l := by
        rw [List.getD_eq_getElem?_getD, vsL_at hb]
        show vl L (l.natAbs : Int) = _
        rw [show (l.natAbs : Int) = -l by omega, vl_neg hc]
      rw [e1] at kc
      obtain ⟨m, rfl⟩ : ∃ m : Nat, l = -(m : Int) := ⟨l.natAbs, by omega⟩
      have e2 : (-(m : Int)).natAbs = m := by omega
      rw [e2] at kc hb
      have e3 : -(-(m : Int)) = (m : Int) := by omega
      generalize vl L (-(m : Int)) = x at *
      have hwx : IntKind.i64.wrap (- -x) = x := by rw [IntKind.wrap_i64]; omega
      clear hcell hr hc hl e1
      go_enter Tryd.func85, Tryd.ntmps85
      go_wp2
      go_ret
      exact ⟨ret_int (by omega), rfl⟩
    · have e0 : vl L l = 0 := vl_zero.2 (hl.resolve_left hb)
      rw [e0]
      clear hcell hr hc hl
      go_enter Tryd.func85, Tryd.ntmps85
      go_wp2
      go_ret
      exact ⟨rfl, rfl⟩
  · by_cases hb : l.natAbs ≤ t
    · obtain ⟨bb, off, rfl, kc⟩ := hcell l.natAbs (by omega)
      have e1 : (vsL t L).getD l.natAbs 0 = vl L l := by
        rw [List.getD_eq_getElem?_getD, vsL_at hb]
        show vl L (l.natAbs : Int) = _
        rw [show (l.natAbs : Int) = l by omega]
      rw [e1] at kc
      obtain ⟨m, rfl⟩ : ∃ m : Nat, l = (m : Int) := ⟨l.natAbs, by omega⟩
      have e2 : ((m : Int)).natAbs = m := by omega
      rw [e2] at kc hb
      generalize vl L (m : Int) = x at *
      clear hcell hr hc hl e1
      go_enter Tryd.func85, Tryd.ntmps85
      go_wp2
      go_ret
      exact ⟨rfl, rfl⟩
    · have e0 : vl L l = 0 := vl_zero.2 (hl.resolve_left hb)
      rw [e0]
      clear hcell hr hc hl
      go_enter Tryd.func85, Tryd.ntmps85
      go_wp2
      go_ret
      exact ⟨rfl, rfl⟩
/-- values of one's own -/
def Vz (B : Nat) (W : World) (g c t : Nat) (L : List Int) : Prop := W.ownsRow B 3 1 (.slice (some ⟨g, 0, none⟩) (t + 1) c) (t + 1) ((vsL t L).map (Value.int .i64))
theorem Vz.rd {B : Nat} {W : World} {g c t : Nat} {L : List Int} (h : Vz B W g c t L) (ht : t ≤ 1048576) : Rd W (.slice (some ⟨g, 0, none⟩) (t + 1) c) (vsL t L) := by
  have : Own B W (.slice (some ⟨g, 0, none⟩) (t + 1) c) (vsL t L) := by unfold Own; rw [vsL_len]; exact h
  exact this.rd (by rw [vsL_len]; omega)
theorem Vz.below {B : Nat} {W W' : World} {g c t : Nat} {L : List Int} (h : Vz B W g c t L) (hb : Below W.heap.size W W') : Vz B W' g c t L := row_kept h fun k hk => hb.block k (h.lt k hk.symm).2
set_option maxRecDepth 100000 in
theorem rPut_any (B g c t : Nat) (L : List Int) (l : Int) (w : World) (h : Vz B w g c t L) (ht : t ≤ 1048576) (hf : fmd l = true) (hn : -l ∉ L) (hz : (0 : Int) ∉ L) (hl : l.natAbs ≤ t) :
    Calls Tryd.prog 86 #[.slice (some ⟨g, 0, none⟩) (t + 1) c, .int .i64 l] w fun e w' => e = .returned (.tuple #[]) ∧ Vz B w' g c t (L ++ [l]) ∧ w.grownBy w' (some g) := by
  have hfr := fmd_range hf
  have hwl : IntKind.i64.wrap (-l) = -l := by rw [IntKind.wrap_i64]; omega
  obtain ⟨z0, hz0⟩ : ∃ z, (vsL t L)[l.natAbs]? = some z := ⟨_, vsL_at hl⟩
  have kc := row_cell h (j := l.natAbs) (x := .int .i64 z0) (by rw [List.getElem?_map, hz0]; rfl)
  have kz := row_fz h l.natAbs
  have hst := vsL_put hfr.1 hn hz hl
  have HS : Hid (Vz B (w.setCell ⟨g, l.natAbs, none⟩ (.int .i64 (if l < 0 then -1 else 1))) g c t (L ++ [l]) ∧ w.grownBy (w.setCell ⟨g, l.natAbs, none⟩ (.int .i64 (if l < 0 then -1 else 1))) (some g)) := by
    refine ⟨?_, grown_set w _ _⟩
    unfold Vz
    rw [← hst, List.map_set]
    exact own_cell h (by omega) _
  clear h hst hz0 hn hz
  by_cases hs : l < 0
  · rw [if_pos hs] at HS
    obtain ⟨m, rfl⟩ : ∃ m : Nat, l = -(m : Int) := ⟨l.natAbs, by omega⟩
    have e2 : (-(m : Int)).natAbs = m := by omega
    have e3 : -(-(m : Int)) = (m : Int) := by omega
    rw [e2] at kc kz hl HS
    go_enter Tryd.func86, Tryd.ntmps86
    go_wp2
    go_end0
    exact ⟨rfl, HS.out.1, HS.out.2⟩
  · rw [if_neg hs] at HS
    obtain ⟨m, rfl⟩ : ∃ m : Nat, l = (m : Int) := ⟨l.natAbs, by omega⟩
    have e2 : ((m : Int)).natAbs = m := by omega
    rw [e2] at kc kz hl HS
    go_enter Tryd.func86, Tryd.ntmps86
    go_wp2
    go_end0
    exact ⟨rfl, HS.out.1, HS.out.2⟩
set_option maxRecDepth 100000 in
theorem rGreatest_any (v : Value) (c : List Int) (a : Int) (w : World) (hr : Rd w v c) (hf : ∀ l ∈ c, fmd l = true) (h0 : 0 ≤ a) (h1 : a ≤ 1048576) :
    Calls Tryd.prog 95 #[v, .int .i64 a] w fun e w' => e = .returned (.int .i64 (mx a c)) ∧ w' = w := by
  have hl := hr.len
  obtain ⟨ad, cp, rfl, hc, hm, hcell⟩ := hr.form
  have HC : Hid (∀ k, k < c.length → ∃ b off, ad = some ⟨b, off, none⟩ ∧ w.cell? ⟨b, off + k, none⟩ = some (.int .i64 (c.getD k 0))) := hcell
  have HF : Hid (∀ l ∈ c, fmd l = true) := hf
  clear hcell hr hf
  go_enter Tryd.func95, Tryd.ntmps95
  go_wp2
  go_loopg [1, 5] c.length (fun g m' i' wr => ∃ k : Nat, k + g = c.length ∧ m' = .int .i64 (mx a (c.take k)) ∧ i' = .int .i64 k ∧ wr = w)
  case atStart => exact ⟨0, by omega, by simp [mx], rfl, rfl⟩
  case round =>
    obtain ⟨k, hk, rfl, rfl, hwr⟩ := hrel
    obtain rfl : w = wr := hwr.symm
    have HK : Hid (k + gk = c.length) := hk
    clear hwr
    by_cases hlt : k < c.length
    · obtain ⟨b, off, rfl, kc⟩ := HC.out k hlt
      have hfl := HF.out _ (getD_mem' (d := 0) hlt)
      have hmt := mx_take a c hlt
      have hm0 := mx_range (c.take k) a h0 h1
      have HLT : Hid (k < c.length) := hlt
      generalize c.getD k 0 = l at *
      have HMT : Hid (mx a (c.take (k + 1)) = max (mx a (c.take k)) (varOf l)) := hmt
      clear hmt hk
      obtain ⟨m1, m2, -, -⟩ := hm0
      generalize mx a (c.take k) = m0 at *
      have hfr := fmd_range hfl
      have hwl : IntKind.i64.wrap (-l) = -l := by rw [IntKind.wrap_i64]; omega
      have hvo : varOf l = if l < 0 then -l else l := by unfold varOf; rw [if_pos hfl]
      by_cases hs : l < 0
      · rw [if_pos hs] at hvo
        have hA : ¬ m0 < l := by omega
        by_cases hb : m0 < -l
        · have HE : Hid (max m0 (varOf l) = -l) := by show _ = _; omega
          clear hvo
          go_wp2
          go_roundg (gk - 1)
          case measure => have := HK.out; have := HLT.out; omega
          case rel => exact ⟨k + 1, by have := HK.out; have := HLT.out; omega, by rw [HMT.out, HE.out], by go_num, rfl⟩
        · have HE : Hid (max m0 (varOf l) = m0) := by show _ = _; omega
          clear hvo
          go_wp2
          go_roundg (gk - 1)
          case measure => have := HK.out; have := HLT.out; omega
          case rel => exact ⟨k + 1, by have := HK.out; have := HLT.out; omega, by rw [HMT.out, HE.out], by go_num, rfl⟩
      · rw [if_neg hs] at hvo
        by_cases hb : m0 < l
        · have hA : ¬ l < -l := by omega
          have HE : Hid (max m0 (varOf l) = l) := by show _ = _; omega
          clear hvo
          go_wp2
          go_roundg (gk - 1)
          case measure => have := HK.out; have := HLT.out; omega
          case rel => exact ⟨k + 1, by have := HK.out; have := HLT.out; omega, by rw [HMT.out, HE.out], by go_num, rfl⟩
        · have hA : ¬ m0 < -l := by omega
          have HE : Hid (max m0 (varOf l) = m0) := by show _ = _; omega
          clear hvo
          go_wp2
          go_roundg (gk - 1)
          case measure => have := HK.out; have := HLT.out; omega
          case rel => exact ⟨k + 1, by have := HK.out; have := HLT.out; omega, by rw [HMT.out, HE.out], by go_num, rfl⟩
    · have hje : k = c.length := by omega
      rw [hje, List.take_length]
      clear hje
      go_wp2
      go_ret
      exact ⟨rfl, rfl⟩
end Go.Proofs.YtkinilhapgagcaaDoor
