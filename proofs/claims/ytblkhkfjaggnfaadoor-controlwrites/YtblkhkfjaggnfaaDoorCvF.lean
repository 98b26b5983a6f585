/-
  control.Formed, walked.
  KEEP: len below nil form rd mono rdz on app start at new trans refl kept own row ap out step each grown block Ap set more one size map made look put take blw
-/
import Derived.Test.YtblkhkfjaggnfaaDoorCvV
import Derived.Test.YtblkhkfjaggnfaaDoorCvG
import Derived.Test.YtblkhkfjaggnfaaDoorMpI
import Derived.Test.YtblkhkfjaggnfaaDoorCtF
set_option linter.unusedSimpArgs false
set_option linter.unusedVariables false
namespace Go.Proofs.YtblkhkfjaggnfaaDoor
open Go Go.RowKit

theorem getF_any : ∀ (fs : List Fld) (n : List UInt8), (getF fs n).isSome = fs.any (fun f => alkF f.1 n)
  | [], n => rfl
  | f :: r, n => by
    rw [getF, List.any_cons, ← getF_any r n]
    cases alkF f.1 n <;> rfl
/-- what the map says of the names of stanza number k (from 0 on), whose first q fields are fs -/
def Seen (T : List UInt8 → Int) (k : Int) (fs : List Fld) : Prop := (∀ x, T x ≤ k) ∧ ∀ n, T (fdL n) = k ↔ (getF fs n).isSome = true
theorem Seen.nil {T : List UInt8 → Int} {k : Int} (h : ∀ x, T x ≤ k) : Seen T (k + 1) [] := ⟨fun x => by have := h x; omega, fun n => by
  have := h (fdL n)
  constructor
  · intro e; omega
  · intro e; cases e⟩
theorem Seen.one {T : List UInt8 → Int} {k : Int} {fs : List Fld} (h : Seen T k fs) (f : Fld) : Seen (upI T (fdL f.1) k) k (fs ++ [f]) := by
  refine ⟨fun x => ?_, fun n => ?_⟩
  · unfold upI
    split
    · omega
    · exact h.1 x
  · unfold upI
    rw [getF_any, List.any_append]
    simp only [List.any_cons, List.any_nil, Bool.or_false]
    rw [alk_fd f.1 n]
    by_cases e : fdL n = fdL f.1
    · rw [if_pos e, decide_eq_true e.symm]; simp
    · rw [if_neg e, decide_eq_false (fun q => e q.symm), Bool.or_false, ← getF_any]; exact h.2 n
theorem Seen.tw {T : List UInt8 → Int} {k : Int} {fs : List Fld} (h : Seen T k fs) (n : List UInt8) : (T (fdL n) == k) = (getF fs n).isSome := by
  rw [Bool.eq_iff_iff, beq_iff_eq]; exact h.2 n
theorem fld_take {l : List Fld} {k : Nat} (h : k < l.length) : l.take (k + 1) = l.take k ++ [l.getD k ([], [])] := by
  rw [List.take_add_one]
  simp [List.getD_eq_getElem?_getD, h]
/-- how many fields stanzas have -/
def totF (l : List Stz) : Nat := (l.map (fun s => s.2.length)).sum
theorem totF_drop {l : List Stz} {k : Nat} (h : k < l.length) : totF (l.drop k) = (l.getD k (0, [])).2.length + totF (l.drop (k + 1)) := by
  rw [stz_drop h]; simp [totF]

theorem wf_k21 {k : Nat} (h : k < 4611686018427387904) : (Lit.int .i64 ((k : Int) + 1)).wf = true := by
  simp [Lit.wf, IntKind.min, IntKind.max, IntKind.bits, IntKind.signed]
  omega
theorem grown_trans21 {A B C : World} {g : Nat} (h : A.grownBy B (some g)) (k : B.grownBy C (some g)) : A.grownBy C (some g) :=
  ⟨k.os.trans h.os, k.tape.trans h.tape, k.output.trans h.output, Nat.le_trans h.size k.size, fun i hi hn => (k.block i (Nat.lt_of_lt_of_le hi h.size) hn).trans (h.block i hi hn)⟩
theorem RdG.map {W W' : World} {v : Value} {fs : List Fld} {g n : Nat} {T : List UInt8 → Int} (h : RdG W v fs) (hm : Mi W g n T) (hg : W.grownBy W' (some g)) : RdG W' v fs := by
  obtain ⟨h1, he, a, c, rfl, hc, hm2, h2⟩ := h
  refine ⟨h1, he, a, c, rfl, hc, hm2, fun hne => ?_⟩
  obtain ⟨b, off, rfl, hlt, hcell⟩ := h2 hne
  have hp : 0 < fs.length := List.length_pos_iff.2 hne
  have hbg : b ≠ g := by
    intro e
    subst e
    obtain ⟨es, cl, hh⟩ := hm.map
    have := (hcell 0 hp).1
    simp [World.cell?, hh] at this
  have hk : W'.heap[b]? = W.heap[b]? := hg.block b hlt (by intro e; injection e with e; exact hbg e)
  refine ⟨b, off, rfl, Nat.lt_of_lt_of_le hlt hg.size, fun j hj => ?_⟩
  obtain ⟨hd, hu⟩ := hcell j hj
  refine ⟨?_, ?_⟩
  · rw [← hd]; simp [World.cell?, hk]
  · rw [← hu]; simp [World.cell?, hk]

set_option maxHeartbeats 6400000 in
set_option maxRecDepth 100000 in
theorem formed21 (v : Value) (l : List Stz) (w : World) (hr : RdSt w v l) (hsz : ∀ s ∈ l, ∀ f ∈ s.2, f.1.length ≤ 1099511627776 ∧ f.2.length < 4294967281) (htot : totF l ≤ 1099511627776) :
    Calls Tryd.prog 11 #[v] w fun e w' => e = .returned (.bool (fmdL l)) ∧ Below w.heap.size w w' := by
  have hlen := hr.len
  have HR : Hid (RdSt w v l) := hr
  have HSz : Hid (∀ s ∈ l, ∀ f ∈ s.2, f.1.length ≤ 1099511627776 ∧ f.2.length < 4294967281) := hsz
  have HTo : Hid (0 + totF (l.drop 0) ≤ 1099511627776) := by show _ ≤ _; rw [List.drop_zero]; omega
  obtain ⟨a, c, rfl, hc, hm, -⟩ := hr.form
  have HF0 : Hid (fmdL l = (l.drop 0).all (fun s => stzOk s.2)) := rfl
  generalize fmdL l = F at *
  clear hr hsz htot
  have hmk : (Instr.makeMap 38 none).run Tryd.prog w = .ok (.map (some w.heap.size)) (w.alloc (.map #[] 0)) := run_makeMap _ _
  have HM0 : Hid (Mi (w.alloc (.map #[] 0)) w.heap.size 0 (fun _ => 0)) := Mi.made w
  have HB0 : Hid (Below w.heap.size w (w.alloc (.map #[] 0))) := Below.alloc (Below.refl _ _) (Nat.le_refl _) _
  obtain ⟨wm, hwm⟩ : ∃ wm, wm = w.alloc (.map #[] 0) := ⟨_, rfl⟩
  rw [← hwm] at hmk HM0 HB0
  clear hwm
  obtain ⟨MG, hMG⟩ : ∃ MG, MG = w.heap.size := ⟨_, rfl⟩
  rw [← hMG] at hmk HM0
  have HMG : Hid (MG = w.heap.size) := hMG
  clear hMG
  go_enter Tryd.func11, Tryd.ntmps11
  go_wp2_with fail
  clear hmk
  go_loopg [12] l.length (fun g i wr => ∃ (k n : Nat) (T : List UInt8 → Int), k + g = l.length ∧ i = .int .i64 k ∧ Hid (F = (l.drop k).all (fun s => stzOk s.2)) ∧ Hid (Below w.heap.size w wr) ∧ Hid (Mi wr MG n T ∧ ∀ x, T x ≤ k) ∧ Hid (n + totF (l.drop k) ≤ 1099511627776))
  case atStart => exact ⟨0, 0, _, by omega, rfl, HF0.out, HB0.out, ⟨HM0.out, fun x => by simp⟩, HTo.out⟩
  case round =>
    obtain ⟨k, n, T, hk, rfl, HK, HB, HM, HN⟩ := hrel
    have HG : Hid (k + gk = l.length) := hk
    clear HF0 HTo HM0 HB0
    by_cases hlt : k < l.length
    · obtain ⟨a', c', e', -, -, hcell⟩ := (HR.out.below HB.out).form
      have e3 : a' = a ∧ c' = c := by injection e' with q1 q2 q3; exact ⟨q1.symm, q3.symm⟩
      obtain ⟨rfl, rfl⟩ := e3
      obtain ⟨b, off, u, rfl, hb, hn, hv, hru⟩ := hcell k hlt
      have hX : F = (stzOk (l.getD k (0, [])).2 && (l.drop (k + 1)).all (fun s => stzOk s.2)) := by rw [HK.out, stz_drop hlt]; rfl
      have hN2 : n + ((l.getD k (0, [])).2.length + totF (l.drop (k + 1))) ≤ 1099511627776 := by rw [← totF_drop hlt]; exact HN.out
      have hfz := HSz.out _ (getD_mem' (l := l) (k := k) (d := (0, [])) hlt)
      generalize (l.getD k (0, [])).2 = fs at *
      generalize (l.getD k (0, [])).1 = ln at *
      have HFz : Hid (∀ f ∈ fs, f.1.length ≤ 1099511627776 ∧ f.2.length < 4294967281) := hfz
      have HX : Hid (F = (stzOk fs && (l.drop (k + 1)).all (fun s => stzOk s.2))) := hX
      have HN2 : Hid (n + (fs.length + totF (l.drop (k + 1))) ≤ 1099511627776) := hN2
      have hfl := hru.len
      obtain ⟨ua, uc, rfl, huc, hum, -⟩ := hru.form
      have HZ : Hid (Bz (wr.alloc (.cells #[.int .i64 ln, .slice ua fs.length uc] 35)) wr.heap.size ln (.slice ua fs.length uc)) := Bz.mk1 _ _ _ _ rfl
      have HBz : Hid (Below wr.heap.size wr (wr.alloc (.cells #[.int .i64 ln, .slice ua fs.length uc] 35))) := Below.alloc (Below.refl _ _) (Nat.le_refl _) _
      have HRu : Hid (RdG (wr.alloc (.cells #[.int .i64 ln, .slice ua fs.length uc] 35)) (.slice ua fs.length uc) fs) := hru.below HBz.out
      clear e' hcell HK hX hfz hru hk hN2 HN hb
      go_upto_region 5 with fail
      clear hn hv
      have HBa : Hid (Below w.heap.size w (wr.alloc (.cells #[.int .i64 ln, .slice ua fs.length uc] 35))) := HB.out.trans (HBz.out.mono HB.out.size)
      have HMa : Hid (Mi (wr.alloc (.cells #[.int .i64 ln, .slice ua fs.length uc] 35)) MG n T ∧ ∀ x, T x ≤ k) := ⟨HM.out.1.blw HBz.out, HM.out.2⟩
      have z1 := HZ.out.c1
      generalize wr.heap.size = D at *
      generalize wr.alloc (.cells #[.int .i64 ln, .slice ua fs.length uc] 35) = wo at *
      clear HB HM HBz
      by_cases h0 : fs.length = 0
      · have hn0 : fs = [] := List.eq_nil_of_length_eq_zero h0
        have HE : Hid (F = false) := by show _ = _; rw [HX.out, stzOk, hn0]; rfl
        have hf0 : ((fs.length : Int) == 0) = true := beq_iff_eq.2 (by omega)
        clear HX hn0 h0
        go_wp2
        go_ret
        exact ⟨ret_bool HE.out.symm, HBa.out⟩
      · have hf0 : ((fs.length : Int) == 0) = false := beq_eq_false_iff_ne.2 (by omega)
        have HX2 : Hid (F = (fldsOk fs 0 fs.length && (l.drop (k + 1)).all (fun s => stzOk s.2))) := by
          show _ = _
          rw [HX.out, stzOk, show fs.isEmpty = false by cases fs; exact absurd rfl h0; rfl]; rfl
        have HS0 : Hid (Mi wo MG n T ∧ Seen T (k + 1) (fs.take 0)) := ⟨HMa.out.1, Seen.nil HMa.out.2⟩
        clear HX HMa
        have HNq0 : Hid (n + (fs.length + totF (l.drop (k + 1))) ≤ 1099511627776) := HN2.out
        have HMl : Hid (MG < wo.heap.size) := HS0.out.1.lt
        go_wp2_with fail
        go_loopg [24] fs.length (fun g j wq => ∃ (q m : Nat) (U : List UInt8 → Int), q + g = fs.length ∧ j = .int .i64 q ∧ Hid (F = (fldsOk fs q g && (l.drop (k + 1)).all (fun s => stzOk s.2))) ∧ Hid (wo.grownBy wq (some MG)) ∧ Hid (Mi wq MG m U ∧ Seen U (k + 1) (fs.take q)) ∧ Hid (m + (g + totF (l.drop (k + 1))) ≤ 1099511627776))
        case atStart => exact ⟨0, n, T, by omega, rfl, HX2.out, ⟨rfl, rfl, rfl, Nat.le_refl _, fun _ _ _ => rfl⟩, HS0.out, HNq0.out⟩
        case round =>
          obtain ⟨q, m, U, hq, rfl, HQ, HBq, HMq, HNq⟩ := hrel
          have HGq : Hid (q + gk = fs.length) := hq
          have HRq0 : Hid (RdG wr (.slice ua fs.length uc) fs) := HRu.out.map HS0.out.1 HBq.out
          have HBw : Hid (Below w.heap.size w wr) := HBa.out.grown HBq.out (HBa.out.size) (fun q e => by injection e with e; rw [← e, HMG.out]; exact Nat.le_refl _)
          clear HX2 HS0 HNq0
          by_cases hlq : q < fs.length
          · obtain ⟨r, hr⟩ : ∃ r, gk = r + 1 := ⟨gk - 1, by omega⟩
            obtain ⟨a2, c2, e', -, -, hcell⟩ := HRq0.out.form
            have e3 : a2 = ua ∧ c2 = uc := by injection e' with q1 q2 q3; exact ⟨q1.symm, q3.symm⟩
            obtain ⟨rfl, rfl⟩ := e3
            obtain ⟨fb, fo, rfl, hfb, hn, hv2⟩ := hcell q hlq
            have hX : F = ((fldOk fs q && fldsOk fs (q + 1) r) && (l.drop (k + 1)).all (fun s => stzOk s.2)) := by rw [HQ.out, hr]; rfl
            have hNr : m + (r + 1 + totF (l.drop (k + 1))) ≤ 1099511627776 := by rw [← hr]; exact HNq.out
            have hfsz := HFz.out _ (getD_mem' (l := fs) (k := q) (d := ([], [])) hlq)
            have htk := fld_take hlq
            have htw : (U (fdL (fs.getD q ([], [])).1) == (k : Int) + 1) = twG fs q := HMq.out.2.tw _
            have HSn : Hid (Seen (upI U (fdL (fs.getD q ([], [])).1) ((k : Int) + 1)) (k + 1) (fs.take (q + 1))) := by rw [htk]; exact HMq.out.2.one _
            rw [fldOk] at hX
            generalize twG fs q = tw at *
            generalize fs.getD q ([], []) = f at *
            obtain ⟨f1, f2⟩ := f
            unfold strV at hn hv2
            have hn : wr.cell? ⟨fb, fo + q * 2, none⟩ = some (.string ⟨f1.toArray⟩) := hn
            have hv2 : wr.cell? ⟨fb, fo + q * 2 + 1, none⟩ = some (.string ⟨f2.toArray⟩) := hv2
            have hNm := fun W => isName21 ⟨f1.toArray⟩ W (by have := hfsz.1; rw [sizeL]; simp only at this ⊢; omega)
            have hVl := fun W => isValue21 ⟨f2.toArray⟩ W (by have := hfsz.2; rw [sizeL]; simp only at this ⊢; omega)
            have hFo := fun W => folded21 ⟨f1.toArray⟩ W (by have := hfsz.1; rw [sizeL]; simp only at this ⊢; omega)
            simp only [strV_list] at hNm hVl hFo
            simp only at hX htw
            have HX : Hid (F = ((!(tw || !nameF f1 || !valF f2) && fldsOk fs (q + 1) r) && (l.drop (k + 1)).all (fun s => stzOk s.2))) := hX
            have hXs : (⟨(fdL f1).toArray⟩ : ByteArray).size ≤ maxLen := by rw [sizeL, fdL_len]; have := hfsz.1; simp only at this; unfold maxLen; omega
            have hmm : m < maxLen := by unfold maxLen; omega
            have hk1 : IntKind.i64.wrap ((k : Int) + 1) = (k : Int) + 1 := by rw [IntKind.wrap_i64]; omega
            have HLk : Hid (∀ W, Below wr.heap.size wr W → (Instr.lookup 38 (.map (some MG)) (.string ⟨(fdL f1).toArray⟩) false).run Tryd.prog W = .ok (.int .i64 (U (fdL f1))) W) := fun W hW => by
              have := (HMq.out.1.blw hW).look (x := ⟨(fdL f1).toArray⟩) hXs
              rwa [strV_list] at this
            have HPt : Hid (∀ W, Below wr.heap.size wr W → ∃ W', (Instr.mapUpdate 38 (.map (some MG)) (.string ⟨(fdL f1).toArray⟩) (.int .i64 ((k : Int) + 1))).run Tryd.prog W = .ok () W' ∧ Mi W' MG (m + 1) (upI U (fdL f1) ((k : Int) + 1)) ∧ wo.grownBy W' (some MG)) := fun W hW => by
              obtain ⟨W', r1, r2, r3⟩ := (HMq.out.1.blw hW).put (x := ⟨(fdL f1).toArray⟩) hXs hmm ((k : Int) + 1) (wf_k21 (by omega))
              rw [strV_list] at r2
              exact ⟨W', r1, r2, grown_trans21 HBq.out (grown_trans21 (⟨hW.os, hW.tape, hW.output, hW.size, fun i hi _ => hW.block i hi⟩ : wr.grownBy W (some MG)) r3)⟩
            have HNm : Hid (∀ W, Calls Tryd.prog 21 #[.string ⟨f1.toArray⟩] W fun e w' => e = .returned (.bool (nameF f1)) ∧ Below W.heap.size W w') := hNm
            have HVl : Hid (∀ W, Calls Tryd.prog 22 #[.string ⟨f2.toArray⟩] W fun e w' => e = .returned (.bool (valF f2)) ∧ Below W.heap.size W w') := hVl
            have HFo : Hid (∀ W, Calls Tryd.prog 23 #[.string ⟨f1.toArray⟩] W fun e w' => e = .returned (.string ⟨(fdL f1).toArray⟩) ∧ Below W.heap.size W w') := hFo
            have HTw : Hid ((U (fdL f1) == (k : Int) + 1) = tw) := htw
            have HFz2 : Hid (Fz2 (wr.alloc (.cells #[.string ⟨f1.toArray⟩, .string ⟨f2.toArray⟩] 37)) wr.heap.size f1 f2) := Fz2.mk1 _ _ _
            have HBx : Hid (Below wr.heap.size wr (wr.alloc (.cells #[.string ⟨f1.toArray⟩, .string ⟨f2.toArray⟩] 37))) := Below.alloc (Below.refl _ _) (Nat.le_refl _) _
            have HNr : Hid (m + (r + 1 + totF (l.drop (k + 1))) ≤ 1099511627776) := hNr
            have HRq : Hid (gk = r + 1) := hr
            clear e' hcell HQ hX hfsz hNm hVl hFo htw hr hq hNr htk hfb hXs hmm HNq HMq HBq HRq0 HRu
            generalize nameF f1 = nb at *
            generalize valF f2 = vb at *
            generalize U (fdL f1) = t0 at *
            generalize (⟨(fdL f1).toArray⟩ : ByteArray) = X at *
            go_upto_region 10 with fail
            have c0 := HFz2.out.c0
            clear hn hv2
            generalize hDf : wr.heap.size = Df at *
            generalize wr.alloc (.cells #[.string ⟨f1.toArray⟩, .string ⟨f2.toArray⟩] 37) = wx at *
            have HBy : Hid (∀ W, Below wx.heap.size wx W → Below Df wr W ∧ Below w.heap.size w W) := fun W hW => by
              have h1 : Below Df wr W := HBx.out.trans (hW.mono (by rw [← hDf]; exact HBx.out.size))
              exact ⟨h1, HBw.out.trans (h1.mono (by rw [← hDf]; exact HBw.out.size))⟩
            have HDf : Hid (wr.heap.size = Df) := hDf
            clear hDf HBx
            cases nb
            case false =>
              have HE : Hid (F = false) := by show _ = _; rw [HX.out]; simp
              clear HX HVl
              go_wp2_with (go_at_call 21; refine (HNm.out _).mono ?_; rintro e w2 ⟨rfl, b2⟩; have HB2 : Hid (Below w.heap.size w w2) := (HBy.out _ b2).2; clear b2)
              go_ret
              exact ⟨ret_bool HE.out.symm, HB2.out⟩
            case true =>
              cases vb
              case false =>
                have HE : Hid (F = false) := by show _ = _; rw [HX.out]; simp
                clear HX
                go_wp2_with (first | (go_at_call 21; refine (HNm.out _).mono ?_; rintro e w2 ⟨rfl, b2⟩; have HF2 : Hid (Fz2 w2 Df f1 f2) := HFz2.out.blw b2; have q1 := HF2.out.c1; have HB2 : Hid (Below wx.heap.size wx w2) := b2; clear b2) | (go_at_call 22; refine (HVl.out _).mono ?_; rintro e w3 ⟨rfl, b3⟩; have HF3 : Hid (Fz2 w3 Df f1 f2) := HF2.out.blw b3; have q2 := HF3.out.c0; have HB3 : Hid (Below wx.heap.size wx w3) := HB2.out.trans (b3.mono HB2.out.size); clear b3))
                have HB4 : Hid (Below w.heap.size w w3) := (HBy.out _ HB3.out).2
                go_ret
                exact ⟨ret_bool HE.out.symm, HB4.out⟩
              case true =>
                go_upto_region 12 with (first | (go_at_call 21; refine (HNm.out _).mono ?_; rintro e w2 ⟨rfl, b2⟩; have HF2 : Hid (Fz2 w2 Df f1 f2) := HFz2.out.blw b2; have q1 := HF2.out.c1; have HB2 : Hid (Below wx.heap.size wx w2) := b2; clear b2) | (go_at_call 22; refine (HVl.out _).mono ?_; rintro e w3 ⟨rfl, b3⟩; have HF3 : Hid (Fz2 w3 Df f1 f2) := HF2.out.blw b3; have q2 := HF3.out.c0; have HB3 : Hid (Below wx.heap.size wx w3) := HB2.out.trans (b3.mono HB2.out.size); clear b3))
                clear c0 q1
                go_wp2_with fail
                refine (HFo.out _).mono ?_
                rintro e w4 ⟨rfl, b4⟩
                have HB4 : Hid (Below Df wr w4) := (HBy.out w4 (HB3.out.trans (b4.mono HB3.out.size))).1
                have HBw4 : Hid (Below w.heap.size w w4) := (HBy.out w4 (HB3.out.trans (b4.mono HB3.out.size))).2
                have hlk := HLk.out w4 HB4.out
                obtain ⟨w5, hpt, hm5, hg5⟩ := HPt.out w4 HB4.out
                have HM5 : Hid (Mi w5 MG (m + 1) (upI U (fdL f1) ((k : Int) + 1))) := hm5
                have HG5 : Hid (wo.grownBy w5 (some MG)) := hg5
                clear q2 b4 hm5 hg5
                cases tw
                case true =>
                  have HE : Hid (F = false) := by show _ = _; rw [HX.out]; rfl
                  have htw : (t0 == (k : Int) + 1) = true := HTw.out
                  have htw2 : t0 = (k : Int) + 1 := by simpa using htw
                  clear HX
                  go_wp2
                  go_ret
                  exact ⟨ret_bool HE.out.symm, HBw4.out⟩
                case false =>
                  have HE : Hid (F = (fldsOk fs (q + 1) r && (l.drop (k + 1)).all (fun s => stzOk s.2))) := by show _ = _; rw [HX.out]; rfl
                  have htw : (t0 == (k : Int) + 1) = false := HTw.out
                  have htw2 : ¬ t0 = (k : Int) + 1 := by simpa using htw
                  clear HX
                  go_wp2
                  go_roundg r
                  case measure => have := HRq.out; omega
                  case rel => exact ⟨q + 1, m + 1, _, by have := HGq.out; have := HRq.out; omega, by go_num, HE.out, HG5.out, ⟨HM5.out, HSn.out⟩, by have := HNr.out; show _ ≤ _; omega⟩
          · have hq0 : gk = 0 := by omega
            have HE : Hid (F = (l.drop (k + 1)).all (fun s => stzOk s.2)) := by show _ = _; rw [HQ.out, hq0]; rfl
            have HNe : Hid (m + totF (l.drop (k + 1)) ≤ 1099511627776) := by show _ ≤ _; have := HNq.out; omega
            clear HQ hq hq0 HNq
            go_wp2
            go_roundg (l.length - (k + 1))
            case measure => have := HG.out; omega
            case rel => exact ⟨k + 1, m, U, by have := HG.out; omega, by go_num, HE.out, HBw.out, ⟨HMq.out.1, fun x => by have := HMq.out.2.1 x; simpa using this⟩, HNe.out⟩
    · have HE : Hid (F = true) := by show _ = _; rw [HK.out, List.drop_eq_nil_of_le (by omega)]; rfl
      clear HK hk
      go_wp2
      go_ret
      exact ⟨ret_bool HE.out.symm, HB.out⟩

end Go.Proofs.YtblkhkfjaggnfaaDoor
