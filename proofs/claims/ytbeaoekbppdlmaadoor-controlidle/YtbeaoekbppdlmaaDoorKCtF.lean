/-
  Rows of stanzas in memory: a slice reads the stanzas l. The document's Formed, walked.
  KEEP: len below nil form rd mono on app start at new trans refl kept own row out grown rdz set one more lt size cell some none letL tail next step go add put del get look no yes e c f b k n m box take each
-/
import Derived.Test.YtbeaoekbppdlmaaDoorKCtV
import Derived.Deep.RegionHeld
set_option linter.unusedSimpArgs false
set_option linter.unusedVariables false
namespace Go.Proofs.YtbeaoekbppdlmaaDoor
open Go Go.RowKit

abbrev Stz := Int × List Fld
/-- the slice reads the stanzas l -/
def RdSt (w : World) (v : Value) (l : List Stz) : Prop :=
  l.length * 32 ≤ 140737488351232 ∧ ∃ a c, v = .slice a l.length c ∧ l.length ≤ c ∧ c ≤ maxLen ∧
    (l ≠ [] → ∃ b off, a = some ⟨b, off, none⟩ ∧ b < w.heap.size ∧ ∀ j, j < l.length → ∃ u, w.cell? ⟨b, off + j * 2, none⟩ = some (.int .i64 (l.getD j (0, [])).1) ∧ w.cell? ⟨b, off + j * 2 + 1, none⟩ = some u ∧ RdG w u (l.getD j (0, [])).2)
theorem RdSt.len {w : World} {v : Value} {l : List Stz} (h : RdSt w v l) : l.length * 32 ≤ 140737488351232 := h.1
theorem RdSt.below {w w' : World} {v : Value} {l : List Stz} (h : RdSt w v l) (hb : Below w.heap.size w w') : RdSt w' v l := by
  obtain ⟨h1, a, c, rfl, hc, hm, h2⟩ := h
  refine ⟨h1, a, c, rfl, hc, hm, fun hne => ?_⟩
  obtain ⟨b, off, rfl, hlt, hcell⟩ := h2 hne
  refine ⟨b, off, rfl, Nat.lt_of_lt_of_le hlt hb.size, fun j hj => ?_⟩
  obtain ⟨u, hd, hu, hr⟩ := hcell j hj
  exact ⟨u, (hb.cell (p := ⟨b, off + j * 2, none⟩) hlt).trans hd, (hb.cell (p := ⟨b, off + j * 2 + 1, none⟩) hlt).trans hu, hr.below hb⟩
theorem RdSt.nil (w : World) : RdSt w (.slice none 0 0) [] := ⟨by simp, none, 0, rfl, Nat.le_refl _, Nat.zero_le _, fun h => absurd rfl h⟩
theorem RdSt.form {w : World} {v : Value} {l : List Stz} (h : RdSt w v l) : ∃ a c, v = .slice a l.length c ∧ l.length ≤ c ∧ c ≤ maxLen ∧ ∀ k, k < l.length → ∃ b off u, a = some ⟨b, off, none⟩ ∧ b < w.heap.size ∧ w.cell? ⟨b, off + k * 2, none⟩ = some (.int .i64 (l.getD k (0, [])).1) ∧ w.cell? ⟨b, off + k * 2 + 1, none⟩ = some u ∧ RdG w u (l.getD k (0, [])).2 := by
  obtain ⟨h1, a, c, rfl, hc, hm, h2⟩ := h
  refine ⟨a, c, rfl, hc, hm, fun k hk => ?_⟩
  obtain ⟨b, off, e, hb, hcell⟩ := h2 (by intro e; subst e; simp at hk)
  obtain ⟨u, hd, hu, hr⟩ := hcell k hk
  exact ⟨b, off, u, e, hb, hd, hu, hr⟩

theorem RdSt.belowB {B : Nat} {w w' : World} {v : Value} {l : List Stz} (h : RdSt w v l) (hb : Below B w w') (hB : w.heap.size ≤ B) : RdSt w' v l := h.below (hb.mono hB)

/-- fields of which none is alike to one ahead of it, and each is well formed -/
def fmG (l : List UInt8) (f : Fld) : Bool := nameF f.1 && valF f.2
def twG (fs : List Fld) (j : Nat) : Bool := (getF (fs.take j) (fs.getD j ([], [])).1).isSome
def fldOk (fs : List Fld) (j : Nat) : Bool := !(twG fs j || !nameF (fs.getD j ([], [])).1 || !valF (fs.getD j ([], [])).2)
/-- the fields from number j on, r of them -/
def fldsOk (fs : List Fld) : Nat → Nat → Bool
  | _, 0 => true
  | j, r + 1 => fldOk fs j && fldsOk fs (j + 1) r
def stzOk (fs : List Fld) : Bool := !fs.isEmpty && fldsOk fs 0 fs.length
def fmdL (l : List Stz) : Bool := l.all (fun s => stzOk s.2)
theorem stz_drop {l : List Stz} {k : Nat} (h : k < l.length) : l.drop k = l.getD k (0, []) :: l.drop (k + 1) := by
  rw [List.drop_eq_getElem_cons h]; simp [List.getD_eq_getElem?_getD, h]
def tw2 (o : Option (List UInt8)) : List UInt8 := o.getD []
theorem sizeL (x : List UInt8) : (⟨x.toArray⟩ : ByteArray).size = x.length := by simp [ByteArray.size]
theorem gtV_form (o : Option (List UInt8)) : gtV o = .tuple #[.string ⟨(tw2 o).toArray⟩, .bool o.isSome] := by cases o <;> rfl

set_option maxHeartbeats 6400000 in
set_option maxRecDepth 100000 in
theorem rFormed21_any (v : Value) (l : List Stz) (w : World) (hr : RdSt w v l) (hsz : ∀ s ∈ l, ∀ f ∈ s.2, f.1.length ≤ 1099511627776 ∧ f.2.length ≤ 1099511627776) :
    Calls Tryd.prog 13 #[v] w fun e w' => e = .returned (.bool (fmdL l)) ∧ Below w.heap.size w w' := by
  have hlen := hr.len
  have HR : Hid (RdSt w v l) := hr
  have HSz : Hid (∀ s ∈ l, ∀ f ∈ s.2, f.1.length ≤ 1099511627776 ∧ f.2.length ≤ 1099511627776) := hsz
  obtain ⟨a, c, rfl, hc, hm, _⟩ := hr.form
  have HF0 : Hid (fmdL l = (l.drop 0).all (fun s => stzOk s.2)) := rfl
  generalize fmdL l = F at *
  clear hr hsz
  go_enter Tryd.func13, Tryd.ntmps13
  go_wp2
  go_loopg [3, 4, 5, 6, 7] l.length (fun g i x4 x5 x6 x7 wr => ∃ k : Nat, k + g = l.length ∧ i = .int .i64 k ∧ Hid (F = (l.drop k).all (fun s => stzOk s.2)) ∧ Hid (Below w.heap.size w wr))
  case atStart => exact ⟨0, by omega, rfl, HF0.out, Below.refl _ _⟩
  case round =>
    obtain ⟨k, hk, rfl, HK, HB⟩ := hrel
    obtain ⟨wo, hwo⟩ : ∃ wo, wo = wr := ⟨_, rfl⟩
    subst hwo
    have HG : Hid (k + gk = l.length) := hk
    clear HF0
    by_cases hlt : k < l.length
    · obtain ⟨a', c', e', _, _, hcell⟩ := (HR.out.below HB.out).form
      have e3 : a' = a ∧ c' = c := by injection e' with q1 q2 q3; exact ⟨q1.symm, q3.symm⟩
      obtain ⟨rfl, rfl⟩ := e3
      obtain ⟨b, off, u, rfl, hb, hn, hv, hru⟩ := hcell k hlt
      have hX : F = (stzOk (l.getD k (0, [])).2 && (l.drop (k + 1)).all (fun s => stzOk s.2)) := by rw [HK.out, stz_drop hlt]; rfl
      have hfz := HSz.out _ (getD_mem' (l := l) (k := k) (d := (0, [])) hlt)
      generalize (l.getD k (0, [])).2 = fs at *
      generalize (l.getD k (0, [])).1 = ln at *
      have HFz : Hid (∀ f ∈ fs, f.1.length ≤ 1099511627776 ∧ f.2.length ≤ 1099511627776) := hfz
      have HX : Hid (F = (stzOk fs && (l.drop (k + 1)).all (fun s => stzOk s.2))) := hX
      have hfl := hru.len
      have HRu : Hid (RdG wo u fs) := hru
      obtain ⟨ua, uc, rfl, huc, hum, _⟩ := hru.form
      clear e' hcell HK hX hfz hru hk hn
      by_cases h0 : fs.length = 0
      · have hn0 : fs = [] := List.eq_nil_of_length_eq_zero h0
        have HE : Hid (F = false) := by show _ = _; rw [HX.out, stzOk, hn0]; rfl
        have hf0 : ((fs.length : Int) == 0) = true := beq_iff_eq.2 (by omega)
        clear HX hn0 h0
        go_wp2
        go_ret
        exact ⟨ret_bool HE.out.symm, HB.out⟩
      · have hf0 : ((fs.length : Int) == 0) = false := beq_eq_false_iff_ne.2 (by omega)
        have HX2 : Hid (F = (fldsOk fs 0 fs.length && (l.drop (k + 1)).all (fun s => stzOk s.2))) := by
          show _ = _
          rw [HX.out, stzOk, show fs.isEmpty = false by cases fs; exact absurd rfl h0; rfl]; rfl
        clear HX
        go_wp2_with fail
        go_loopg [5, 6, 7] fs.length (fun g j x6 x7 wq => ∃ q : Nat, q + g = fs.length ∧ j = .int .i64 q ∧ Hid (F = (fldsOk fs q g && (l.drop (k + 1)).all (fun s => stzOk s.2))) ∧ Hid (Below wo.heap.size wo wq))
        case atStart => exact ⟨0, by omega, rfl, HX2.out, Below.refl _ _⟩
        case round =>
          obtain ⟨q, hq, rfl, HQ, HBq⟩ := hrel
          obtain ⟨wi, hwi⟩ : ∃ wi, wi = wr := ⟨_, rfl⟩
          subst hwi
          have HGq : Hid (q + gk = fs.length) := hq
          clear HX2
          by_cases hlq : q < fs.length
          · obtain ⟨r, hr⟩ : ∃ r, gk = r + 1 := ⟨gk - 1, by omega⟩
            obtain ⟨a2, c2, e', _, _, hcell⟩ := (HRu.out.belowB HBq.out (Nat.le_refl _)).form
            have e3 : a2 = ua ∧ c2 = uc := by injection e' with q1 q2 q3; exact ⟨q1.symm, q3.symm⟩
            obtain ⟨rfl, rfl⟩ := e3
            obtain ⟨fb, fo, rfl, hfb, hn, hv2⟩ := hcell q hlq
            have hX : F = ((fldOk fs q && fldsOk fs (q + 1) r) && (l.drop (k + 1)).all (fun s => stzOk s.2)) := by rw [HQ.out, hr]; rfl
            have hfsz := HFz.out _ (getD_mem' (l := fs) (k := q) (d := ([], [])) hlq)
            have hGt := fun W (hW : Below wi.heap.size wi W) => rGet21_any 0 (.slice (some ⟨fb, fo, none⟩) q c2) (fs.take q) ⟨(fs.getD q ([], [])).1.toArray⟩ W (((HRu.out.belowB HBq.out (Nat.le_refl _)).below hW).take (by omega))
            rw [strV_list] at hGt
            have htw : (getF (fs.take q) (fs.getD q ([], [])).1).isSome = twG fs q := rfl
            simp only [gtV_form, htw] at hGt
            have hNm := fun W => rName21_any ⟨(fs.getD q ([], [])).1.toArray⟩ W (by have := hfsz.1; rw [sizeL]; omega)
            have hVl := fun W => rValue21_any ⟨(fs.getD q ([], [])).2.toArray⟩ W (by have := hfsz.2; rw [sizeL]; omega)
            simp only [strV_list] at hNm hVl
            rw [fldOk] at hX
            unfold strV at hn hv2
            generalize twG fs q = tw at *
            generalize tw2 (getF (fs.take q) (fs.getD q ([], [])).1) = tv at *
            generalize nameF (fs.getD q ([], [])).1 = nb at *
            generalize valF (fs.getD q ([], [])).2 = vb at *
            generalize (⟨(fs.getD q ([], [])).1.toArray⟩ : ByteArray) = N at *
            generalize (⟨(fs.getD q ([], [])).2.toArray⟩ : ByteArray) = VV at *
            generalize (⟨tv.toArray⟩ : ByteArray) = TV at *
            have HGt : Hid (Calls Tryd.prog 11 #[.agg #[.int .i64 0, .slice (some ⟨fb, fo, none⟩) q c2], .string N] wi.drew fun e w' => e = .returned (.tuple #[.string TV, .bool tw]) ∧ Below wi.drew.heap.size wi.drew w') := hGt _ (Below.refl _ _).drew
            have HNm : Hid (∀ W, Calls Tryd.prog 31 #[.string N] W fun e w' => e = .returned (.bool nb) ∧ w' = W) := hNm
            have HVl : Hid (∀ W, Calls Tryd.prog 32 #[.string VV] W fun e w' => e = .returned (.bool vb) ∧ Below W.heap.size W w') := hVl
            have HX : Hid (F = ((!(tw || !nb || !vb) && fldsOk fs (q + 1) r) && (l.drop (k + 1)).all (fun s => stzOk s.2))) := hX
            have HS : Hid (∀ W', Below wi.heap.size wi W' → Below wi.heap.size wi W' ∧ W'.cell? ⟨fb, fo + q * 2, none⟩ = some (.string N) ∧ W'.cell? ⟨fb, fo + q * 2 + 1, none⟩ = some (.string VV)) := fun W' hW => ⟨hW, (hW.cell (p := ⟨fb, fo + q * 2, none⟩) hfb).trans hn, (hW.cell (p := ⟨fb, fo + q * 2 + 1, none⟩) hfb).trans hv2⟩
            have HRq : Hid (gk = r + 1) := hr
            have HBw : Hid (Below w.heap.size w wi) := HB.out.trans (HBq.out.mono HB.out.size)
            have hqi : (q : Int) < fs.length := by omega
            have hqc : (q : Int) ≤ c2 := by omega
            have hqc2 : q ≤ c2 := by omega
            clear e' hcell hX hfsz hGt htw hNm hVl hr hq HQ hv2
            go_upto_region 10 with fail
            have HW1 : Hid (Below wi.heap.size wi wi.drew) := (Below.refl _ _).drew
            go_region_held (fun W' => Below wi.heap.size wi W' ∧ W'.cell? ⟨fb, fo + q * 2, none⟩ = some (.string N) ∧ W'.cell? ⟨fb, fo + q * 2 + 1, none⟩ = some (.string VV)) (first | with_reducible exact HS.out _ HW1.out | with_reducible exact HS.out _ G1.out) (first
              | (go_at_call 11; (with_reducible refine Calls.mono HGt.out ?_); rintro e w2 ⟨rfl, be1⟩; have G1 : Hid (Below wi.heap.size wi w2) := Below.step HW1.out be1; clear be1))
            obtain ⟨_, hn2, hv3⟩ := HS.out _ G1.out
            have HB2 : Hid (Below w.heap.size w w2) := HBw.out.trans (G1.out.mono HBw.out.size)
            have HBi : Hid (Below wo.heap.size wo w2) := HBq.out.trans (G1.out.mono HBq.out.size)
            clear HBw HBq HGt hn
            cases tw
            case true =>
              have HE : Hid (F = false) := by show _ = _; rw [HX.out]; rfl
              clear HX
              go_wp2
              go_ret
              exact ⟨ret_bool HE.out.symm, HB2.out⟩
            case false =>
              cases nb
              case false =>
                have HE : Hid (F = false) := by show _ = _; rw [HX.out]; rfl
                clear HX
                go_wp2_with (go_at_call 31; refine (HNm.out _).mono ?_; rintro e w9 ⟨rfl, h9⟩; have h9s := h9.symm; clear h9; subst h9s)
                go_ret
                exact ⟨ret_bool HE.out.symm, HB2.out⟩
              case true =>
                cases vb
                case false =>
                  have HE : Hid (F = false) := by show _ = _; rw [HX.out]; rfl
                  clear HX
                  go_wp2_with (first | (go_at_call 31; refine (HNm.out _).mono ?_; rintro e w9 ⟨rfl, h9⟩; have h9s := h9.symm; clear h9; subst h9s) | (go_at_call 32; refine (HVl.out _).mono ?_; rintro e w8 ⟨rfl, b8⟩; have HB8 : Hid (Below w.heap.size w w8) := HB2.out.trans (b8.mono HB2.out.size); clear b8))
                  go_ret
                  exact ⟨ret_bool HE.out.symm, HB8.out⟩
                case true =>
                  have HE : Hid (F = (fldsOk fs (q + 1) r && (l.drop (k + 1)).all (fun s => stzOk s.2))) := by show _ = _; rw [HX.out]; rfl
                  clear HX
                  go_wp2_with (first | (go_at_call 31; refine (HNm.out _).mono ?_; rintro e w9 ⟨rfl, h9⟩; have h9s := h9.symm; clear h9; subst h9s) | (go_at_call 32; refine (HVl.out _).mono ?_; rintro e w8 ⟨rfl, b8⟩; have HB8 : Hid (Below wo.heap.size wo w8) := HBi.out.trans (b8.mono HBi.out.size); clear b8))
                  go_roundg r
                  case measure => have := HRq.out; omega
                  case rel => exact ⟨q + 1, by have := HGq.out; have := HRq.out; omega, by go_num, HE.out, HB8.out⟩
          · have hq0 : gk = 0 := by omega
            have HE : Hid (F = (l.drop (k + 1)).all (fun s => stzOk s.2)) := by show _ = _; rw [HQ.out, hq0]; rfl
            have HB2 : Hid (Below w.heap.size w wi) := HB.out.trans (HBq.out.mono HB.out.size)
            clear HQ hq hq0
            go_wp2
            go_roundg (l.length - (k + 1))
            case measure => have := HG.out; omega
            case rel => exact ⟨k + 1, by have := HG.out; omega, by go_num, HE.out, HB2.out⟩
    · have HE : Hid (F = true) := by show _ = _; rw [HK.out, List.drop_eq_nil_of_le (by omega)]; rfl
      clear HK hk
      go_wp2
      go_ret
      exact ⟨ret_bool HE.out.symm, HB.out⟩

end Go.Proofs.YtbeaoekbppdlmaaDoor
