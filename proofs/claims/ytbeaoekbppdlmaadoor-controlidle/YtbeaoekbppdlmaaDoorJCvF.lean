/-
  joined: CvF CrB CrN CrP CrG CrS CrZ
-/
import Derived.Test.YtbeaoekbppdlmaaDoorKCvV
import Derived.Test.YtbeaoekbppdlmaaDoorJCvA
import Derived.Test.YtbeaoekbppdlmaaDoorMpI
import Derived.Test.YtbeaoekbppdlmaaDoorKCtF
import Derived.Test.YtbeaoekbppdlmaaDoorKCvD
import Derived.Test.YtbeaoekbppdlmaaDoorJCtR
import Derived.Test.YtbeaoekbppdlmaaDoorAppK
set_option linter.unusedSimpArgs false
set_option linter.unusedVariables false
namespace Go.Proofs.YtbeaoekbppdlmaaDoor
open Go Go.RowKit

theorem getF_any : ∀ (fs : List Fld) (n : List UInt8), (getF fs n).isSome = fs.any (fun f => alkF f.1 n)
  | [], n => rfl
  | f :: r, n => by
    rw [getF, List.any_cons, ← getF_any r n]
    cases alkF f.1 n <;> rfl
/-- what the map says of the names of stanza number k (from 0 on), whose first q fields are fs -/
def Seen (T : List UInt8 → Int) (k : Int) (fs : List Fld) : Prop := (∀ x, T x ≤ k) ∧ ∀ n, T (fdL n) = k ↔ (getF fs n).isSome = true
theorem Seen.nil {T : List UInt8 → Int} {k : Int} (h : ∀ x, T x ≤ k) : Seen T (k + 1) [] := ⟨fun x => by have := h x; omega, fun n => by
  have := h (fdL n)
  constructor
  · intro e; omega
  · intro e; cases e⟩
theorem Seen.one {T : List UInt8 → Int} {k : Int} {fs : List Fld} (h : Seen T k fs) (f : Fld) : Seen (upI T (fdL f.1) k) k (fs ++ [f]) := by
  refine ⟨fun x => ?_, fun n => ?_⟩
  · unfold upI
    split
    · omega
    · exact h.1 x
  · unfold upI
    rw [getF_any, List.any_append]
    simp only [List.any_cons, List.any_nil, Bool.or_false]
    rw [alk_fd f.1 n]
    by_cases e : fdL n = fdL f.1
    · rw [if_pos e, decide_eq_true e.symm]; simp
    · rw [if_neg e, decide_eq_false (fun q => e q.symm), Bool.or_false, ← getF_any]; exact h.2 n
theorem Seen.tw {T : List UInt8 → Int} {k : Int} {fs : List Fld} (h : Seen T k fs) (n : List UInt8) : (T (fdL n) == k) = (getF fs n).isSome := by
  rw [Bool.eq_iff_iff, beq_iff_eq]; exact h.2 n
theorem fld_take {l : List Fld} {k : Nat} (h : k < l.length) : l.take (k + 1) = l.take k ++ [l.getD k ([], [])] := by
  rw [List.take_add_one]
  simp [List.getD_eq_getElem?_getD, h]
/-- how many fields stanzas have -/
def totF (l : List Stz) : Nat := (l.map (fun s => s.2.length)).sum
theorem totF_drop {l : List Stz} {k : Nat} (h : k < l.length) : totF (l.drop k) = (l.getD k (0, [])).2.length + totF (l.drop (k + 1)) := by
  rw [stz_drop h]; simp [totF]

theorem wf_k21 {k : Nat} (h : k < 4611686018427387904) : (Lit.int .i64 ((k : Int) + 1)).wf = true := by
  simp [Lit.wf, IntKind.min, IntKind.max, IntKind.bits, IntKind.signed]
  omega
theorem grown_trans21 {A B C : World} {g : Nat} (h : A.grownBy B (some g)) (k : B.grownBy C (some g)) : A.grownBy C (some g) :=
  ⟨k.os.trans h.os, k.tape.trans h.tape, k.output.trans h.output, Nat.le_trans h.size k.size, fun i hi hn => (k.block i (Nat.lt_of_lt_of_le hi h.size) hn).trans (h.block i hi hn)⟩
theorem RdG.map {W W' : World} {v : Value} {fs : List Fld} {g n : Nat} {T : List UInt8 → Int} (h : RdG W v fs) (hm : Mi W g n T) (hg : W.grownBy W' (some g)) : RdG W' v fs := by
  obtain ⟨h1, he, a, c, rfl, hc, hm2, h2⟩ := h
  refine ⟨h1, he, a, c, rfl, hc, hm2, fun hne => ?_⟩
  obtain ⟨b, off, rfl, hlt, hcell⟩ := h2 hne
  have hp : 0 < fs.length := List.length_pos_iff.2 hne
  have hbg : b ≠ g := by
    intro e
    subst e
    obtain ⟨es, cl, hh⟩ := hm.map
    have := (hcell 0 hp).1
    simp [World.cell?, hh] at this
  have hk : W'.heap[b]? = W.heap[b]? := hg.block b hlt (by intro e; injection e with e; exact hbg e)
  refine ⟨b, off, rfl, Nat.lt_of_lt_of_le hlt hg.size, fun j hj => ?_⟩
  obtain ⟨hd, hu⟩ := hcell j hj
  refine ⟨?_, ?_⟩
  · rw [← hd]; simp [World.cell?, hk]
  · rw [← hu]; simp [World.cell?, hk]

set_option maxHeartbeats 6400000 in
set_option maxRecDepth 100000 in
theorem formed21 (v : Value) (l : List Stz) (w : World) (hr : RdSt w v l) (hsz : ∀ s ∈ l, ∀ f ∈ s.2, f.1.length ≤ 1099511627776 ∧ f.2.length < 4294967281) (htot : totF l ≤ 1099511627776) :
    Calls Tryd.prog 9 #[v] w fun e w' => e = .returned (.bool (fmdL l)) ∧ Below w.heap.size w w' := by
  have hlen := hr.len
  have HR : Hid (RdSt w v l) := hr
  have HSz : Hid (∀ s ∈ l, ∀ f ∈ s.2, f.1.length ≤ 1099511627776 ∧ f.2.length < 4294967281) := hsz
  have HTo : Hid (0 + totF (l.drop 0) ≤ 1099511627776) := by show _ ≤ _; rw [List.drop_zero]; omega
  obtain ⟨a, c, rfl, hc, hm, -⟩ := hr.form
  have HF0 : Hid (fmdL l = (l.drop 0).all (fun s => stzOk s.2)) := rfl
  generalize fmdL l = F at *
  clear hr hsz htot
  have hmk : (Instr.makeMap 59 none).run Tryd.prog w = .ok (.map (some w.heap.size)) (w.alloc (.map #[] 0)) := run_makeMap _ _
  have HM0 : Hid (Mi (w.alloc (.map #[] 0)) w.heap.size 0 (fun _ => 0)) := Mi.made w
  have HB0 : Hid (Below w.heap.size w (w.alloc (.map #[] 0))) := Below.alloc (Below.refl _ _) (Nat.le_refl _) _
  obtain ⟨wm, hwm⟩ : ∃ wm, wm = w.alloc (.map #[] 0) := ⟨_, rfl⟩
  rw [← hwm] at hmk HM0 HB0
  clear hwm
  obtain ⟨MG, hMG⟩ : ∃ MG, MG = w.heap.size := ⟨_, rfl⟩
  rw [← hMG] at hmk HM0
  have HMG : Hid (MG = w.heap.size) := hMG
  clear hMG
  go_enter Tryd.func9, Tryd.ntmps9
  go_wp2_with fail
  clear hmk
  go_loopg [12] l.length (fun g i wr => ∃ (k n : Nat) (T : List UInt8 → Int), k + g = l.length ∧ i = .int .i64 k ∧ Hid (F = (l.drop k).all (fun s => stzOk s.2)) ∧ Hid (Below w.heap.size w wr) ∧ Hid (Mi wr MG n T ∧ ∀ x, T x ≤ k) ∧ Hid (n + totF (l.drop k) ≤ 1099511627776))
  case atStart => exact ⟨0, 0, _, by omega, rfl, HF0.out, HB0.out, ⟨HM0.out, fun x => by simp⟩, HTo.out⟩
  case round =>
    obtain ⟨k, n, T, hk, rfl, HK, HB, HM, HN⟩ := hrel
    have HG : Hid (k + gk = l.length) := hk
    clear HF0 HTo HM0 HB0
    by_cases hlt : k < l.length
    · obtain ⟨a', c', e', -, -, hcell⟩ := (HR.out.below HB.out).form
      have e3 : a' = a ∧ c' = c := by injection e' with q1 q2 q3; exact ⟨q1.symm, q3.symm⟩
      obtain ⟨rfl, rfl⟩ := e3
      obtain ⟨b, off, u, rfl, hb, hn, hv, hru⟩ := hcell k hlt
      have hX : F = (stzOk (l.getD k (0, [])).2 && (l.drop (k + 1)).all (fun s => stzOk s.2)) := by rw [HK.out, stz_drop hlt]; rfl
      have hN2 : n + ((l.getD k (0, [])).2.length + totF (l.drop (k + 1))) ≤ 1099511627776 := by rw [← totF_drop hlt]; exact HN.out
      have hfz := HSz.out _ (getD_mem' (l := l) (k := k) (d := (0, [])) hlt)
      generalize (l.getD k (0, [])).2 = fs at *
      generalize (l.getD k (0, [])).1 = ln at *
      have HFz : Hid (∀ f ∈ fs, f.1.length ≤ 1099511627776 ∧ f.2.length < 4294967281) := hfz
      have HX : Hid (F = (stzOk fs && (l.drop (k + 1)).all (fun s => stzOk s.2))) := hX
      have HN2 : Hid (n + (fs.length + totF (l.drop (k + 1))) ≤ 1099511627776) := hN2
      have hfl := hru.len
      obtain ⟨ua, uc, rfl, huc, hum, -⟩ := hru.form
      have HZ : Hid (Bz (wr.alloc (.cells #[.int .i64 ln, .slice ua fs.length uc] 35)) wr.heap.size ln (.slice ua fs.length uc)) := Bz.mk1 _ _ _ _ rfl
      have HBz : Hid (Below wr.heap.size wr (wr.alloc (.cells #[.int .i64 ln, .slice ua fs.length uc] 35))) := Below.alloc (Below.refl _ _) (Nat.le_refl _) _
      have HRu : Hid (RdG (wr.alloc (.cells #[.int .i64 ln, .slice ua fs.length uc] 35)) (.slice ua fs.length uc) fs) := hru.below HBz.out
      clear e' hcell HK hX hfz hru hk hN2 HN hb
      go_upto_region 5 with fail
      clear hn hv
      have HBa : Hid (Below w.heap.size w (wr.alloc (.cells #[.int .i64 ln, .slice ua fs.length uc] 35))) := HB.out.trans (HBz.out.mono HB.out.size)
      have HMa : Hid (Mi (wr.alloc (.cells #[.int .i64 ln, .slice ua fs.length uc] 35)) MG n T ∧ ∀ x, T x ≤ k) := ⟨HM.out.1.blw HBz.out, HM.out.2⟩
      have z1 := HZ.out.c1
      generalize wr.heap.size = D at *
      generalize wr.alloc (.cells #[.int .i64 ln, .slice ua fs.length uc] 35) = wo at *
      clear HB HM HBz
      by_cases h0 : fs.length = 0
      · have hn0 : fs = [] := List.eq_nil_of_length_eq_zero h0
        have HE : Hid (F = false) := by show _ = _; rw [HX.out, stzOk, hn0]; rfl
        have hf0 : ((fs.length : Int) == 0) = true := beq_iff_eq.2 (by omega)
        clear HX hn0 h0
        go_wp2
        go_ret
        exact ⟨ret_bool HE.out.symm, HBa.out⟩
      · have hf0 : ((fs.length : Int) == 0) = false := beq_eq_false_iff_ne.2 (by omega)
        have HX2 : Hid (F = (fldsOk fs 0 fs.length && (l.drop (k + 1)).all (fun s => stzOk s.2))) := by
          show _ = _
          rw [HX.out, stzOk, show fs.isEmpty = false by cases fs; exact absurd rfl h0; rfl]; rfl
        have HS0 : Hid (Mi wo MG n T ∧ Seen T (k + 1) (fs.take 0)) := ⟨HMa.out.1, Seen.nil HMa.out.2⟩
        clear HX HMa
        have HNq0 : Hid (n + (fs.length + totF (l.drop (k + 1))) ≤ 1099511627776) := HN2.out
        have HMl : Hid (MG < wo.heap.size) := HS0.out.1.lt
        go_wp2_with fail
        go_loopg [24] fs.length (fun g j wq => ∃ (q m : Nat) (U : List UInt8 → Int), q + g = fs.length ∧ j = .int .i64 q ∧ Hid (F = (fldsOk fs q g && (l.drop (k + 1)).all (fun s => stzOk s.2))) ∧ Hid (wo.grownBy wq (some MG)) ∧ Hid (Mi wq MG m U ∧ Seen U (k + 1) (fs.take q)) ∧ Hid (m + (g + totF (l.drop (k + 1))) ≤ 1099511627776))
        case atStart => exact ⟨0, n, T, by omega, rfl, HX2.out, ⟨rfl, rfl, rfl, Nat.le_refl _, fun _ _ _ => rfl⟩, HS0.out, HNq0.out⟩
        case round =>
          obtain ⟨q, m, U, hq, rfl, HQ, HBq, HMq, HNq⟩ := hrel
          have HGq : Hid (q + gk = fs.length) := hq
          have HRq0 : Hid (RdG wr (.slice ua fs.length uc) fs) := HRu.out.map HS0.out.1 HBq.out
          have HBw : Hid (Below w.heap.size w wr) := HBa.out.grown HBq.out (HBa.out.size) (fun q e => by injection e with e; rw [← e, HMG.out]; exact Nat.le_refl _)
          clear HX2 HS0 HNq0
          by_cases hlq : q < fs.length
          · obtain ⟨r, hr⟩ : ∃ r, gk = r + 1 := ⟨gk - 1, by omega⟩
            obtain ⟨a2, c2, e', -, -, hcell⟩ := HRq0.out.form
            have e3 : a2 = ua ∧ c2 = uc := by injection e' with q1 q2 q3; exact ⟨q1.symm, q3.symm⟩
            obtain ⟨rfl, rfl⟩ := e3
            obtain ⟨fb, fo, rfl, hfb, hn, hv2⟩ := hcell q hlq
            have hX : F = ((fldOk fs q && fldsOk fs (q + 1) r) && (l.drop (k + 1)).all (fun s => stzOk s.2)) := by rw [HQ.out, hr]; rfl
            have hNr : m + (r + 1 + totF (l.drop (k + 1))) ≤ 1099511627776 := by rw [← hr]; exact HNq.out
            have hfsz := HFz.out _ (getD_mem' (l := fs) (k := q) (d := ([], [])) hlq)
            have htk := fld_take hlq
            have htw : (U (fdL (fs.getD q ([], [])).1) == (k : Int) + 1) = twG fs q := HMq.out.2.tw _
            have HSn : Hid (Seen (upI U (fdL (fs.getD q ([], [])).1) ((k : Int) + 1)) (k + 1) (fs.take (q + 1))) := by rw [htk]; exact HMq.out.2.one _
            rw [fldOk] at hX
            generalize twG fs q = tw at *
            generalize fs.getD q ([], []) = f at *
            obtain ⟨f1, f2⟩ := f
            unfold strV at hn hv2
            have hn : wr.cell? ⟨fb, fo + q * 2, none⟩ = some (.string ⟨f1.toArray⟩) := hn
            have hv2 : wr.cell? ⟨fb, fo + q * 2 + 1, none⟩ = some (.string ⟨f2.toArray⟩) := hv2
            have hNm := fun W => isName21 ⟨f1.toArray⟩ W (by have := hfsz.1; rw [sizeL]; simp only at this ⊢; omega)
            have hVl := fun W => isValue21 ⟨f2.toArray⟩ W (by have := hfsz.2; rw [sizeL]; simp only at this ⊢; omega)
            have hFo := fun W => folded21 ⟨f1.toArray⟩ W (by have := hfsz.1; rw [sizeL]; simp only at this ⊢; omega)
            simp only [strV_list] at hNm hVl hFo
            simp only at hX htw
            have HX : Hid (F = ((!(tw || !nameF f1 || !valF f2) && fldsOk fs (q + 1) r) && (l.drop (k + 1)).all (fun s => stzOk s.2))) := hX
            have hXs : (⟨(fdL f1).toArray⟩ : ByteArray).size ≤ maxLen := by rw [sizeL, fdL_len]; have := hfsz.1; simp only at this; unfold maxLen; omega
            have hmm : m < maxLen := by unfold maxLen; omega
            have hk1 : IntKind.i64.wrap ((k : Int) + 1) = (k : Int) + 1 := by rw [IntKind.wrap_i64]; omega
            have HLk : Hid (∀ W, Below wr.heap.size wr W → (Instr.lookup 59 (.map (some MG)) (.string ⟨(fdL f1).toArray⟩) false).run Tryd.prog W = .ok (.int .i64 (U (fdL f1))) W) := fun W hW => by
              have := (HMq.out.1.blw hW).look (x := ⟨(fdL f1).toArray⟩) hXs
              rwa [strV_list] at this
            have HPt : Hid (∀ W, Below wr.heap.size wr W → ∃ W', (Instr.mapUpdate 59 (.map (some MG)) (.string ⟨(fdL f1).toArray⟩) (.int .i64 ((k : Int) + 1))).run Tryd.prog W = .ok () W' ∧ Mi W' MG (m + 1) (upI U (fdL f1) ((k : Int) + 1)) ∧ wo.grownBy W' (some MG)) := fun W hW => by
              obtain ⟨W', r1, r2, r3⟩ := (HMq.out.1.blw hW).put (x := ⟨(fdL f1).toArray⟩) hXs hmm ((k : Int) + 1) (wf_k21 (by omega))
              rw [strV_list] at r2
              exact ⟨W', r1, r2, grown_trans21 HBq.out (grown_trans21 (⟨hW.os, hW.tape, hW.output, hW.size, fun i hi _ => hW.block i hi⟩ : wr.grownBy W (some MG)) r3)⟩
            have HNm : Hid (∀ W, Calls Tryd.prog 24 #[.string ⟨f1.toArray⟩] W fun e w' => e = .returned (.bool (nameF f1)) ∧ Below W.heap.size W w') := hNm
            have HVl : Hid (∀ W, Calls Tryd.prog 25 #[.string ⟨f2.toArray⟩] W fun e w' => e = .returned (.bool (valF f2)) ∧ Below W.heap.size W w') := hVl
            have HFo : Hid (∀ W, Calls Tryd.prog 26 #[.string ⟨f1.toArray⟩] W fun e w' => e = .returned (.string ⟨(fdL f1).toArray⟩) ∧ Below W.heap.size W w') := hFo
            have HTw : Hid ((U (fdL f1) == (k : Int) + 1) = tw) := htw
            have HFz2 : Hid (Fz2 (wr.alloc (.cells #[.string ⟨f1.toArray⟩, .string ⟨f2.toArray⟩] 50)) wr.heap.size f1 f2) := Fz2.mk1 _ _ _
            have HBx : Hid (Below wr.heap.size wr (wr.alloc (.cells #[.string ⟨f1.toArray⟩, .string ⟨f2.toArray⟩] 50))) := Below.alloc (Below.refl _ _) (Nat.le_refl _) _
            have HNr : Hid (m + (r + 1 + totF (l.drop (k + 1))) ≤ 1099511627776) := hNr
            have HRq : Hid (gk = r + 1) := hr
            clear e' hcell HQ hX hfsz hNm hVl hFo htw hr hq hNr htk hfb hXs hmm HNq HMq HBq HRq0 HRu
            generalize nameF f1 = nb at *
            generalize valF f2 = vb at *
            generalize U (fdL f1) = t0 at *
            generalize (⟨(fdL f1).toArray⟩ : ByteArray) = X at *
            go_upto_region 10 with fail
            have c0 := HFz2.out.c0
            clear hn hv2
            generalize hDf : wr.heap.size = Df at *
            generalize wr.alloc (.cells #[.string ⟨f1.toArray⟩, .string ⟨f2.toArray⟩] 50) = wx at *
            have HBy : Hid (∀ W, Below wx.heap.size wx W → Below Df wr W ∧ Below w.heap.size w W) := fun W hW => by
              have h1 : Below Df wr W := HBx.out.trans (hW.mono (by rw [← hDf]; exact HBx.out.size))
              exact ⟨h1, HBw.out.trans (h1.mono (by rw [← hDf]; exact HBw.out.size))⟩
            have HDf : Hid (wr.heap.size = Df) := hDf
            clear hDf HBx
            cases nb
            case false =>
              have HE : Hid (F = false) := by show _ = _; rw [HX.out]; simp
              clear HX HVl
              go_wp2_with (go_at_call 24; refine (HNm.out _).mono ?_; rintro e w2 ⟨rfl, b2⟩; have HB2 : Hid (Below w.heap.size w w2) := (HBy.out _ b2).2; clear b2)
              go_ret
              exact ⟨ret_bool HE.out.symm, HB2.out⟩
            case true =>
              cases vb
              case false =>
                have HE : Hid (F = false) := by show _ = _; rw [HX.out]; simp
                clear HX
                go_wp2_with (first | (go_at_call 24; refine (HNm.out _).mono ?_; rintro e w2 ⟨rfl, b2⟩; have HF2 : Hid (Fz2 w2 Df f1 f2) := HFz2.out.blw b2; have q1 := HF2.out.c1; have HB2 : Hid (Below wx.heap.size wx w2) := b2; clear b2) | (go_at_call 25; refine (HVl.out _).mono ?_; rintro e w3 ⟨rfl, b3⟩; have HF3 : Hid (Fz2 w3 Df f1 f2) := HF2.out.blw b3; have q2 := HF3.out.c0; have HB3 : Hid (Below wx.heap.size wx w3) := HB2.out.trans (b3.mono HB2.out.size); clear b3))
                have HB4 : Hid (Below w.heap.size w w3) := (HBy.out _ HB3.out).2
                go_ret
                exact ⟨ret_bool HE.out.symm, HB4.out⟩
              case true =>
                go_upto_region 12 with (first | (go_at_call 24; refine (HNm.out _).mono ?_; rintro e w2 ⟨rfl, b2⟩; have HF2 : Hid (Fz2 w2 Df f1 f2) := HFz2.out.blw b2; have q1 := HF2.out.c1; have HB2 : Hid (Below wx.heap.size wx w2) := b2; clear b2) | (go_at_call 25; refine (HVl.out _).mono ?_; rintro e w3 ⟨rfl, b3⟩; have HF3 : Hid (Fz2 w3 Df f1 f2) := HF2.out.blw b3; have q2 := HF3.out.c0; have HB3 : Hid (Below wx.heap.size wx w3) := HB2.out.trans (b3.mono HB2.out.size); clear b3))
                clear c0 q1
                go_wp2_with fail
                refine (HFo.out _).mono ?_
                rintro e w4 ⟨rfl, b4⟩
                have HB4 : Hid (Below Df wr w4) := (HBy.out w4 (HB3.out.trans (b4.mono HB3.out.size))).1
                have HBw4 : Hid (Below w.heap.size w w4) := (HBy.out w4 (HB3.out.trans (b4.mono HB3.out.size))).2
                have hlk := HLk.out w4 HB4.out
                obtain ⟨w5, hpt, hm5, hg5⟩ := HPt.out w4 HB4.out
                have HM5 : Hid (Mi w5 MG (m + 1) (upI U (fdL f1) ((k : Int) + 1))) := hm5
                have HG5 : Hid (wo.grownBy w5 (some MG)) := hg5
                clear q2 b4 hm5 hg5
                cases tw
                case true =>
                  have HE : Hid (F = false) := by show _ = _; rw [HX.out]; rfl
                  have htw : (t0 == (k : Int) + 1) = true := HTw.out
                  have htw2 : t0 = (k : Int) + 1 := by simpa using htw
                  clear HX
                  go_wp2
                  go_ret
                  exact ⟨ret_bool HE.out.symm, HBw4.out⟩
                case false =>
                  have HE : Hid (F = (fldsOk fs (q + 1) r && (l.drop (k + 1)).all (fun s => stzOk s.2))) := by show _ = _; rw [HX.out]; rfl
                  have htw : (t0 == (k : Int) + 1) = false := HTw.out
                  have htw2 : ¬ t0 = (k : Int) + 1 := by simpa using htw
                  clear HX
                  go_wp2
                  go_roundg r
                  case measure => have := HRq.out; omega
                  case rel => exact ⟨q + 1, m + 1, _, by have := HGq.out; have := HRq.out; omega, by go_num, HE.out, HG5.out, ⟨HM5.out, HSn.out⟩, by have := HNr.out; show _ ≤ _; omega⟩
          · have hq0 : gk = 0 := by omega
            have HE : Hid (F = (l.drop (k + 1)).all (fun s => stzOk s.2)) := by show _ = _; rw [HQ.out, hq0]; rfl
            have HNe : Hid (m + totF (l.drop (k + 1)) ≤ 1099511627776) := by show _ ≤ _; have := HNq.out; omega
            clear HQ hq hq0 HNq
            go_wp2
            go_roundg (l.length - (k + 1))
            case measure => have := HG.out; omega
            case rel => exact ⟨k + 1, m, U, by have := HG.out; omega, by go_num, HE.out, HBw.out, ⟨HMq.out.1, fun x => by have := HMq.out.2.1 x; simpa using this⟩, HNe.out⟩
    · have HE : Hid (F = true) := by show _ = _; rw [HK.out, List.drop_eq_nil_of_le (by omega)]; rfl
      clear HK hk
      go_wp2
      go_ret
      exact ⟨ret_bool HE.out.symm, HB.out⟩

end Go.Proofs.YtbeaoekbppdlmaaDoor
set_option linter.unusedSimpArgs false
set_option linter.unusedVariables false
namespace Go.Proofs.YtbeaoekbppdlmaaDoor
open Go Go.RowKit

/-- what a line is: 1 not fair, 2 a gap, 3 a remark, 4 it goes on, 5 a field -/
def kdF (t : List UInt8) : Int := if fairF false t = false then 1 else if trF t = [] then 2 else if t.head? = some 35 then 3 else if isBl (t.headD 0) = true then 4 else 5
/-- the reader's box -/
def Rb (W : World) (b : Nat) (left text : List UInt8) (ln : Int) (name : List UInt8) (val : Value) (sl : Int) (sf : Value) (mp : Nat) (all : Value) : Prop :=
  W.heap[b]? = some (.cells #[.string ⟨left.toArray⟩, .string ⟨text.toArray⟩, .int .i64 ln, .string ⟨name.toArray⟩, val, .int .i64 sl, sf, .map (some mp), all] 66 (0, 0))
section
variable {W W' : World} {b : Nat} {left text : List UInt8} {ln : Int} {name : List UInt8} {val : Value} {sl : Int} {sf : Value} {mp : Nat} {all : Value}
theorem Rb.lt (h : Rb W b left text ln name val sl sf mp all) : b < W.heap.size := (Array.getElem?_eq_some_iff.1 h).1
theorem Rb.fz (h : Rb W b left text ln name val sl sf mp all) (k : Nat) : W.frozen? ⟨b, k, none⟩ = false := by simp [World.frozen?, show W.heap[b]? = _ from h]
theorem Rb.c0 (h : Rb W b left text ln name val sl sf mp all) : W.cell? ⟨b, 0, none⟩ = some (.string ⟨left.toArray⟩) := by simp [World.cell?, show W.heap[b]? = _ from h]
theorem Rb.c1 (h : Rb W b left text ln name val sl sf mp all) : W.cell? ⟨b, 1, none⟩ = some (.string ⟨text.toArray⟩) := by simp [World.cell?, show W.heap[b]? = _ from h]
theorem Rb.c2 (h : Rb W b left text ln name val sl sf mp all) : W.cell? ⟨b, 2, none⟩ = some (.int .i64 ln) := by simp [World.cell?, show W.heap[b]? = _ from h]
theorem Rb.c3 (h : Rb W b left text ln name val sl sf mp all) : W.cell? ⟨b, 3, none⟩ = some (.string ⟨name.toArray⟩) := by simp [World.cell?, show W.heap[b]? = _ from h]
theorem Rb.c4 (h : Rb W b left text ln name val sl sf mp all) : W.cell? ⟨b, 4, none⟩ = some val := by simp [World.cell?, show W.heap[b]? = _ from h]
theorem Rb.c5 (h : Rb W b left text ln name val sl sf mp all) : W.cell? ⟨b, 5, none⟩ = some (.int .i64 sl) := by simp [World.cell?, show W.heap[b]? = _ from h]
theorem Rb.c6 (h : Rb W b left text ln name val sl sf mp all) : W.cell? ⟨b, 6, none⟩ = some sf := by simp [World.cell?, show W.heap[b]? = _ from h]
theorem Rb.c7 (h : Rb W b left text ln name val sl sf mp all) : W.cell? ⟨b, 7, none⟩ = some (.map (some mp)) := by simp [World.cell?, show W.heap[b]? = _ from h]
theorem Rb.c8 (h : Rb W b left text ln name val sl sf mp all) : W.cell? ⟨b, 8, none⟩ = some all := by simp [World.cell?, show W.heap[b]? = _ from h]
theorem Rb.kept (h : Rb W b left text ln name val sl sf mp all) (hk : W'.heap[b]? = W.heap[b]?) : Rb W' b left text ln name val sl sf mp all := hk.trans h
theorem Rb.blw (h : Rb W b left text ln name val sl sf mp all) (hb : Below W.heap.size W W') : Rb W' b left text ln name val sl sf mp all := h.kept (hb.block b h.lt)
theorem Rb.grown {g : Option Nat} (h : Rb W b left text ln name val sl sf mp all) (hg : W.grownBy W' g) (hne : some b ≠ g) : Rb W' b left text ln name val sl sf mp all := h.kept (hg.block b h.lt hne)
theorem Rb.setS (h : Rb W b left text ln name val sl sf mp all) (k : Nat) (x : Value) : (W.setCell ⟨b, k, none⟩ x).heap[b]? = some (.cells (#[.string ⟨left.toArray⟩, .string ⟨text.toArray⟩, .int .i64 ln, .string ⟨name.toArray⟩, val, .int .i64 sl, sf, .map (some mp), all].set! k x) 66 (0, 0)) := by
  obtain ⟨hlt, hk⟩ := Array.getElem?_eq_some_iff.1 h
  show (W.heap.modify b _)[b]? = _
  rw [Array.getElem?_eq_getElem (by rw [Array.size_modify]; exact hlt), Array.getElem_modify_self, hk]
  rfl
theorem Rb.s0 (h : Rb W b left text ln name val sl sf mp all) (x : List UInt8) : Rb (W.setCell ⟨b, 0, none⟩ (.string ⟨x.toArray⟩)) b x text ln name val sl sf mp all := h.setS 0 _
theorem Rb.s1 (h : Rb W b left text ln name val sl sf mp all) (x : List UInt8) : Rb (W.setCell ⟨b, 1, none⟩ (.string ⟨x.toArray⟩)) b left x ln name val sl sf mp all := h.setS 1 _
theorem Rb.s2 (h : Rb W b left text ln name val sl sf mp all) (x : Int) : Rb (W.setCell ⟨b, 2, none⟩ (.int .i64 x)) b left text x name val sl sf mp all := h.setS 2 _
theorem Rb.s3 (h : Rb W b left text ln name val sl sf mp all) (x : List UInt8) : Rb (W.setCell ⟨b, 3, none⟩ (.string ⟨x.toArray⟩)) b left text ln x val sl sf mp all := h.setS 3 _
theorem Rb.s4 (h : Rb W b left text ln name val sl sf mp all) (x : Value) : Rb (W.setCell ⟨b, 4, none⟩ x) b left text ln name x sl sf mp all := h.setS 4 _
theorem Rb.s5 (h : Rb W b left text ln name val sl sf mp all) (x : Int) : Rb (W.setCell ⟨b, 5, none⟩ (.int .i64 x)) b left text ln name val x sf mp all := h.setS 5 _
theorem Rb.s6 (h : Rb W b left text ln name val sl sf mp all) (x : Value) : Rb (W.setCell ⟨b, 6, none⟩ x) b left text ln name val sl x mp all := h.setS 6 _
theorem Rb.s8 (h : Rb W b left text ln name val sl sf mp all) (x : Value) : Rb (W.setCell ⟨b, 8, none⟩ x) b left text ln name val sl sf mp x := h.setS 8 _
end

/-- the rest of the reader's memory: the map of names, the value's bytes, the fields, the stanzas -/
structure RM (B : Nat) (W : World) (b mp n : Nat) (T : List UInt8 → Int) (val : Value) (vs : List UInt8) (sf : Value) (fs : List Fld) (all : Value) (L : List SG) : Prop where
  mi : Mi W mp n T
  v : OwnT B W val vs
  f : OwnG B W sf fs
  t : OwnSt B W all L
  ap : ∀ x ∈ L, apG x.2.1 sf
  rd : ∃ cs f, W.heap[b]? = some (.cells cs 66 f)
  hb : B ≤ b
  hm : B ≤ mp
theorem tyV_row {B : Nat} {W : World} {v : Value} {n : Nat} {xs : List Value} {T : TypeId} {sz : Nat} (h : W.ownsRow B T sz v n xs) {g : Nat} (e : v.ownBlock = some g) : ∃ cs f, W.heap[g]? = some (.cells cs T f) := by
  rcases h.2 with ⟨rfl, _⟩ | ⟨g', cap, cur, rfl, _, hg, _⟩
  · cases e
  · simp [Value.ownBlock] at e
    subst e
    exact ⟨_, _, hg⟩
theorem own_kept {B : Nat} {W W' : World} {v : Value} {n : Nat} {xs : List Value} {T : TypeId} {sz : Nat} (h : W.ownsRow B T sz v n xs) (hk : ∀ k, v.ownBlock = some k → W'.heap[k]? = W.heap[k]?) : W'.ownsRow B T sz v n xs := rowT_kept h hk
section
variable {B : Nat} {W W' : World} {b mp n : Nat} {T : List UInt8 → Int} {val : Value} {vs : List UInt8} {sf : Value} {fs : List Fld} {all : Value} {L : List SG}
/-- where only blocks of one kind turn -/
theorem RM.kept (h : RM B W b mp n T val vs sf fs all L) (hk : ∀ k, k < W.heap.size → (k = b ∨ k = mp ∨ val.ownBlock = some k ∨ sf.ownBlock = some k ∨ all.ownBlock = some k ∨ ∃ x ∈ L, x.2.1.ownBlock = some k) → W'.heap[k]? = W.heap[k]?) : RM B W' b mp n T val vs sf fs all L := by
  have lt : ∀ {v : Value} {n : Nat} {xs : List Value} {Ty : TypeId} {sz : Nat}, W.ownsRow B Ty sz v n xs → ∀ k, v.ownBlock = some k → k < W.heap.size := fun hh k e => (World.ownsRow.lt hh k e).2
  refine ⟨h.mi.kept (hk _ h.mi.lt (.inr (.inl rfl))), own_kept h.v fun k e => hk k (lt h.v k e) (.inr (.inr (.inl e))), own_kept h.f fun k e => hk k (lt h.f k e) (.inr (.inr (.inr (.inl e)))),
    ⟨own_kept h.t.row fun k e => hk k (lt h.t.row k e) (.inr (.inr (.inr (.inr (.inl e))))), fun x hx => own_kept (h.t.own x hx) fun k e => hk k (lt (h.t.own x hx) k e) (.inr (.inr (.inr (.inr (.inr ⟨x, hx, e⟩))))), h.t.ap⟩, h.ap, ?_, h.hb, h.hm⟩
  obtain ⟨cs, f, e⟩ := h.rd
  exact ⟨cs, f, (hk b (Array.getElem?_eq_some_iff.1 e).1 (.inl rfl)).trans e⟩
theorem RM.blw (h : RM B W b mp n T val vs sf fs all L) (hb : Below W.heap.size W W') : RM B W' b mp n T val vs sf fs all L := h.kept fun k hk _ => hb.block k hk
/-- the kinds of the blocks -/
theorem RM.ne_box (h : RM B W b mp n T val vs sf fs all L) : mp ≠ b ∧ val.ownBlock ≠ some b ∧ sf.ownBlock ≠ some b ∧ all.ownBlock ≠ some b ∧ ∀ x ∈ L, x.2.1.ownBlock ≠ some b := by
  refine ⟨fun e => ?_, fun e => ?_, fun e => ?_, fun e => ?_, fun x hx e => ?_⟩
  · obtain ⟨cs, f, e1⟩ := h.rd
    obtain ⟨es, c, e2⟩ := h.mi.map
    rw [e, e1] at e2; cases e2
  · exact absurd (ty_apart21 h.rd (tyV_row h.v e)) (by decide)
  · exact absurd (ty_apart21 h.rd (tyV_row h.f e)) (by decide)
  · exact absurd (ty_apart21 h.rd (tyV_row h.t.row e)) (by decide)
  · exact absurd (ty_apart21 h.rd (tyV_row (h.t.own x hx) e)) (by decide)
theorem not_map {W : World} {g n : Nat} {T : List UInt8 → Int} {t : TypeId} (hm : Mi W g n T) (h : ∃ cs f, W.heap[g]? = some (.cells cs t f)) : False := by
  obtain ⟨cs, f, e1⟩ := h
  obtain ⟨es, c, e2⟩ := hm.map
  rw [e1] at e2; cases e2
/-- a store into the box -/
theorem RM.box (h : RM B W b mp n T val vs sf fs all L) (k : Nat) (x : Value) : RM B (W.setCell ⟨b, k, none⟩ x) b mp n T val vs sf fs all L := by
  obtain ⟨n1, n2, n3, n4, n5⟩ := h.ne_box
  have far : ∀ j, j ≠ b → (W.setCell ⟨b, k, none⟩ x).heap[j]? = W.heap[j]? := fun j hj => Below.heap_setCell _ _ _ _ hj
  refine ⟨h.mi.kept (far _ n1), own_kept h.v fun j e => far j (fun q => n2 (q ▸ e)), own_kept h.f fun j e => far j (fun q => n3 (q ▸ e)),
    ⟨own_kept h.t.row fun j e => far j (fun q => n4 (q ▸ e)), fun y hy => own_kept (h.t.own y hy) fun j e => far j (fun q => n5 y hy (q ▸ e)), h.t.ap⟩, h.ap, ?_, h.hb, h.hm⟩
  obtain ⟨cs, f, e⟩ := h.rd
  exact ⟨_, f, set_heap21 e k x⟩
/-- the map turns -/
theorem RM.mapT {n' : Nat} {T' : List UInt8 → Int} (h : RM B W b mp n T val vs sf fs all L) (hm : Mi W' mp n' T') (hg : W.grownBy W' (some mp)) : RM B W' b mp n' T' val vs sf fs all L := by
  have far : ∀ j, j < W.heap.size → j ≠ mp → W'.heap[j]? = W.heap[j]? := fun j hj hn => hg.block j hj (fun e => hn (by injection e))
  have key : ∀ {v : Value} {m : Nat} {xs : List Value} {Ty : TypeId} {sz : Nat}, W.ownsRow B Ty sz v m xs → W'.ownsRow B Ty sz v m xs := fun hh => own_kept hh fun j e => far j (World.ownsRow.lt hh j e).2 (fun q => not_map h.mi (q ▸ tyV_row hh e))
  refine ⟨hm, key h.v, key h.f, ⟨key h.t.row, fun y hy => key (h.t.own y hy), h.t.ap⟩, h.ap, ?_, h.hb, h.hm⟩
  obtain ⟨cs, f, e⟩ := h.rd
  exact ⟨cs, f, (far b (Array.getElem?_eq_some_iff.1 e).1 (fun q => h.ne_box.1 q.symm)).trans e⟩
/-- the value's row turns -/
theorem RM.valT {val' : Value} {vs' : List UInt8} (h : RM B W b mp n T val vs sf fs all L) (hv : OwnT B W' val' vs') (hg : W.grownBy W' val.ownBlock) : RM B W' b mp n T val' vs' sf fs all L := by
  have key : ∀ {v : Value} {m : Nat} {xs : List Value} {Ty : TypeId} {sz : Nat}, W.ownsRow B Ty sz v m xs → Ty ≠ 5 → W'.ownsRow B Ty sz v m xs := fun hh hne => own_kept hh fun j e => hg.block j (World.ownsRow.lt hh j e).2 (fun q => hne (ty_apart21 (tyV_row hh e) (tyV_row h.v q.symm)))
  refine ⟨h.mi.kept (hg.block _ h.mi.lt fun q => not_map h.mi (tyV_row h.v q.symm)), hv, key h.f (by decide), ⟨key h.t.row (by decide), fun y hy => key (h.t.own y hy) (by decide), h.t.ap⟩, h.ap, ?_, h.hb, h.hm⟩
  obtain ⟨cs, f, e⟩ := h.rd
  exact ⟨cs, f, (hg.block b (Array.getElem?_eq_some_iff.1 e).1 (fun q => h.ne_box.2.1 q.symm)).trans e⟩
/-- the fields' row turns -/
theorem RM.fldT {sf' : Value} {fs' : List Fld} (h : RM B W b mp n T val vs sf fs all L) (hv : OwnG B W' sf' fs') (hg : W.grownBy W' sf.ownBlock) (hn : sf'.ownBlock = sf.ownBlock ∨ ∀ g, sf'.ownBlock = some g → W.heap.size ≤ g) : RM B W' b mp n T val vs sf' fs' all L := by
  have key : ∀ {v : Value} {m : Nat} {xs : List Value} {Ty : TypeId} {sz : Nat}, W.ownsRow B Ty sz v m xs → Ty ≠ 50 → W'.ownsRow B Ty sz v m xs := fun hh hne => own_kept hh fun j e => hg.block j (World.ownsRow.lt hh j e).2 (fun q => hne (ty_apart21 (tyV_row hh e) (tyV_row h.f q.symm)))
  refine ⟨h.mi.kept (hg.block _ h.mi.lt fun q => not_map h.mi (tyV_row h.f q.symm)), key h.v (by decide), hv, ⟨key h.t.row (by decide), fun y hy => own_kept (h.t.own y hy) fun j e => hg.block j (World.ownsRow.lt (h.t.own y hy) j e).2 (fun q => h.ap y hy j e q.symm), h.t.ap⟩, fun y hy g e e2 => ?_, ?_, h.hb, h.hm⟩
  · rcases hn with q | q
    · exact h.ap y hy g e (q ▸ e2)
    · have h1 := ((h.t.own y hy).own g e).2
      have h2 := q g e2
      omega
  · obtain ⟨cs, f, e⟩ := h.rd
    exact ⟨cs, f, (hg.block b (Array.getElem?_eq_some_iff.1 e).1 (fun q => h.ne_box.2.2.1 q.symm)).trans e⟩
end

end Go.Proofs.YtbeaoekbppdlmaaDoor
set_option linter.unusedSimpArgs false
set_option linter.unusedVariables false
namespace Go.Proofs.YtbeaoekbppdlmaaDoor
open Go Go.RowKit

theorem ext_take (l : List UInt8) (k : Nat) : (⟨l.toArray⟩ : ByteArray).extract 0 k = ⟨(l.take k).toArray⟩ := ba_eq (by rw [ext_list]; simp)
theorem ext_drop (l : List UInt8) (k n : Nat) (h : l.length ≤ n) : (⟨l.toArray⟩ : ByteArray).extract k n = ⟨(l.drop k).toArray⟩ := ba_eq (by rw [ext_list, strV_list, strV_list, List.take_of_length_le (by rw [List.length_drop]; omega)])
theorem cutN21 (l : List UInt8) (w : World) (hs : l.length ≤ 281474976710656) :
    Calls Tryd.prog 63 #[.string ⟨l.toArray⟩, .string ⟨#[10]⟩] w fun e w' => e = .returned (.tuple #[.string ⟨(cutN l).1.toArray⟩, .string ⟨(cutN l).2.toArray⟩, .bool (hasN l)]) ∧ Below w.heap.size w w' := by
  rcases at10 l with ⟨h1, h2, h3⟩ | ⟨k, h1, hk, h2, h4⟩
  · refine (cut21_no ⟨l.toArray⟩ 10 w (by rw [strV_list]; exact h1)).mono ?_
    rintro e w' ⟨rfl, hw⟩
    rw [h2, h3, hw]
    exact ⟨rfl, Below.refl _ _⟩
  · refine (cut21_yes ⟨l.toArray⟩ 10 w k (by rw [strV_list]; exact h1) (by rw [sizeL]; exact hk) (by rw [sizeL]; exact hs)).mono ?_
    rintro e w' ⟨rfl, hb⟩
    rw [h2, h4, ext_take, ext_drop _ _ _ (by rw [sizeL]; exact Nat.le_refl _)]
    exact ⟨rfl, hb⟩
theorem grown_b21 {A B : World} {g : Option Nat} (h : Below A.heap.size A B) : A.grownBy B g := ⟨h.os, h.tape, h.output, h.size, fun i hi _ => h.block i hi⟩
theorem grown_set21 {A B : World} {b : Nat} (h : A.grownBy B (some b)) (k : Nat) (x : Value) : A.grownBy (B.setCell ⟨b, k, none⟩ x) (some b) :=
  ⟨h.os, h.tape, h.output, by rw [show (B.setCell ⟨b, k, none⟩ x).heap.size = B.heap.size by simp]; exact h.size, fun i hi hn => (Below.heap_setCell _ _ _ _ (fun e => hn (by rw [e]))).trans (h.block i hi hn)⟩
theorem cutN_le2 (l : List UInt8) : (cutN l).1.length ≤ l.length ∧ (cutN l).2.length ≤ l.length := by
  have h := congrArg List.length (cut_glue l)
  rw [List.length_append] at h
  cases hn : hasN l
  · rw [hn] at h
    rcases at10 l with ⟨_, _, h3⟩ | ⟨k, _, _, h2, _⟩
    · rw [h3]; simp
    · rw [hn] at h2; cases h2
  · rw [hn, if_pos rfl] at h
    simp only [List.length_cons] at h
    omega

set_option maxHeartbeats 3200000 in
set_option maxRecDepth 100000 in
theorem next21 (W : World) (b : Nat) (left text : List UInt8) (ln : Int) (name : List UInt8) (val : Value) (sl : Int) (sf : Value) (mp : Nat) (all : Value) (h : Rb W b left text ln name val sl sf mp all) (hl : left.length ≤ 281474976710656) (h0 : 0 ≤ ln) (h1 : ln ≤ 281474976710656) :
    Calls Tryd.prog 49 #[.pointer (some ⟨b, 0, none⟩)] W fun e w' =>
      (left = [] ∧ e = .returned (.int .i64 0) ∧ w' = W) ∨ (left ≠ [] ∧ e = .returned (.int .i64 (kdF (cutN left).1)) ∧ Rb w' b (cutN left).2 (cutN left).1 (ln + 1) name val sl sf mp all ∧ W.grownBy w' (some b)) := by
  have c0 := h.c0
  by_cases hn : left = []
  · subst hn
    go_enter Tryd.func49, Tryd.ntmps49
    go_wp2
    go_ret
    exact .inl ⟨trivial, rfl, rfl⟩
  · have hpl : ¬ (⟨left.toArray⟩ : ByteArray).toList = [] := fun e => hn (by rw [ByteArray.toList_eq] at e; simpa using e)
    have hpe : (⟨left.toArray⟩ : ByteArray).toList.isEmpty = false := by simpa using hpl
    have hpd : ¬ (⟨left.toArray⟩ : ByteArray).data = #[] := fun e => hn (by simpa using e)
    have HCu : Hid (Calls Tryd.prog 63 #[.string ⟨left.toArray⟩, .string ⟨#[10]⟩] W fun e w' => e = .returned (.tuple #[.string ⟨(cutN left).1.toArray⟩, .string ⟨(cutN left).2.toArray⟩, .bool (hasN left)]) ∧ Below W.heap.size W w') := cutN21 left W hl
    have hcl := cutN_le2 left
    have HFa : Hid (∀ w, Calls Tryd.prog 39 #[.string ⟨(cutN left).1.toArray⟩] w fun e w' => e = .returned (.bool (fairF false (cutN left).1)) ∧ Below w.heap.size w w') := fun w => by
      have := isFair21 ⟨(cutN left).1.toArray⟩ w (by rw [sizeL]; omega)
      rwa [strV_list] at this
    have HTr : Hid (∀ w, Calls Tryd.prog 40 #[.string ⟨(cutN left).1.toArray⟩] w fun e w' => e = .returned (.string ⟨(trF (cutN left).1).toArray⟩) ∧ Below w.heap.size w w') := fun w => by
      have := trimmed21 ⟨(cutN left).1.toArray⟩ w (by rw [sizeL]; omega)
      rwa [strV_list] at this
    have HNn : Hid (left ≠ []) := hn
    have hw1 : IntKind.i64.wrap (ln + 1) = ln + 1 := by rw [IntKind.wrap_i64]; omega
    have HRb : Hid (Rb W b left text ln name val sl sf mp all) := h
    generalize hLB : (⟨left.toArray⟩ : ByteArray) = LB at *
    generalize (cutN left).1 = t at *
    generalize (cutN left).2 = r at *
    generalize hasN left = fo at *
    clear hn h hcl hLB
    go_enter Tryd.func49, Tryd.ntmps49
    go_wp2_with fail
    refine HCu.out.mono ?_
    rintro e w1 ⟨rfl, b1⟩
    clear c0 hpl hpe hpd HCu
    have HR1 : Hid (Rb w1 b left text ln name val sl sf mp all) := HRb.out.blw b1
    have HB1 : Hid (Below W.heap.size W w1) := b1
    have z0 := HR1.out.fz 0
    have z1 := HR1.out.fz 1
    have z2 := HR1.out.fz 2
    have y0 := HR1.out.c0
    have y1 := HR1.out.c1
    have y2 := HR1.out.c2
    clear b1 HRb
    go_upto_region 4 with fail
    have HR3 : Hid (Rb ((w1.setCell ⟨b, 1, none⟩ (.string ⟨t.toArray⟩)).setCell ⟨b, 0, none⟩ (.string ⟨r.toArray⟩)) b r t ln name val sl sf mp all) := (HR1.out.s1 t).s0 r
    have HG3 : Hid (W.grownBy ((w1.setCell ⟨b, 1, none⟩ (.string ⟨t.toArray⟩)).setCell ⟨b, 0, none⟩ (.string ⟨r.toArray⟩)) (some b)) := grown_set21 (grown_set21 (grown_b21 HB1.out) _ _) _ _
    clear y0 y1 y2 z0 z1 z2 HR1 HB1
    generalize (w1.setCell ⟨b, 1, none⟩ (.string ⟨t.toArray⟩)).setCell ⟨b, 0, none⟩ (.string ⟨r.toArray⟩) = w3 at *
    have y2 := HR3.out.c2
    have z2 := HR3.out.fz 2
    have HR4 : Hid (Rb (w3.setCell ⟨b, 2, none⟩ (.int .i64 (ln + 1))) b r t (ln + 1) name val sl sf mp all) := HR3.out.s2 _
    have HG4 : Hid (W.grownBy (w3.setCell ⟨b, 2, none⟩ (.int .i64 (ln + 1))) (some b)) := grown_set21 HG3.out _ _
    go_upto_region 5 with fail
    clear y2 z2 HR3 HG3
    generalize w3.setCell ⟨b, 2, none⟩ (.int .i64 (ln + 1)) = w4 at *
    have y1 := HR4.out.c1
    have HC1 : Hid (∀ w', Below w4.heap.size w4 w' → w'.cell? ⟨b, 1, none⟩ = some (.string ⟨t.toArray⟩)) := fun w' hb => (HR4.out.blw hb).c1
    have HFr : Hid (∀ e w', Below w4.heap.size w4 w' → e = Ending.returned (.int .i64 (kdF t)) → (left = [] ∧ e = .returned (.int .i64 0) ∧ w' = W) ∨ (left ≠ [] ∧ e = .returned (.int .i64 (kdF t)) ∧ Rb w' b r t (ln + 1) name val sl sf mp all ∧ W.grownBy w' (some b))) := fun e w' hb he => .inr ⟨HNn.out, he, HR4.out.blw hb, grown_trans21 HG4.out (grown_b21 hb)⟩
    cases hfa : fairF false t
    · have HK : Hid (kdF t = 1) := by show _ = _; unfold kdF; rw [if_pos hfa]
      rw [hfa] at HFa
      clear hfa HTr
      go_wp2_with (go_at_call 39; refine (HFa.out _).mono ?_; rintro e w5 ⟨rfl, b5⟩; have HB5 : Hid (Below w4.heap.size w4 w5) := b5; clear b5)
      go_ret
      exact HFr.out _ _ HB5.out (by rw [HK.out]; rfl)
    rw [hfa] at HFa
    by_cases htr : trF t = []
    · have HK : Hid (kdF t = 2) := by show _ = _; unfold kdF; rw [if_neg (by rw [hfa]; simp), if_pos htr]
      rw [htr] at HTr
      clear hfa htr
      go_wp2_with (first | (go_at_call 39; refine (HFa.out _).mono ?_; rintro e w5 ⟨rfl, b5⟩; have HB5 : Hid (Below w4.heap.size w4 w5) := b5; have q1 := HC1.out _ b5; clear b5) | (go_at_call 40; refine (HTr.out _).mono ?_; rintro e w6 ⟨rfl, b6⟩; have HB6 : Hid (Below w4.heap.size w4 w6) := HB5.out.trans (b6.mono HB5.out.size); have q2 := HC1.out _ HB6.out; clear b6))
      go_ret
      exact HFr.out _ _ HB6.out (by rw [HK.out]; rfl)
    · have hne : t ≠ [] := fun e => htr (by rw [e]; rfl)
      have hpl : ¬ (⟨(trF t).toArray⟩ : ByteArray).toList = [] := fun e => htr (by rw [ByteArray.toList_eq] at e; simpa using e)
      have hpe : (⟨(trF t).toArray⟩ : ByteArray).toList.isEmpty = false := by simpa using hpl
      have hpd : ¬ (⟨(trF t).toArray⟩ : ByteArray).data = #[] := fun e => htr (by simpa using e)
      have htl : 0 < (⟨t.toArray⟩ : ByteArray).size := by rw [sizeL]; exact List.length_pos_iff.2 hne
      obtain ⟨z, hz⟩ : ∃ z : Int, z = ((t.headD 0).toNat : Nat) := ⟨_, rfl⟩
      have hzz : (((⟨t.toArray⟩ : ByteArray)[0]'htl).toNat : Int) = z := by
        rw [hz]
        cases t with
        | nil => exact absurd rfl hne
        | cons c q => rfl
      have hz3 : (t.head? = some 35) ↔ z = 35 := by
        rw [hz]
        cases t with
        | nil => exact absurd rfl hne
        | cons c q =>
          simp only [List.head?_cons, Option.some.injEq, List.headD_cons]
          constructor
          · rintro rfl; rfl
          · intro e; exact UInt8.toNat_inj.1 (by have : (35 : UInt8).toNat = 35 := rfl; omega)
      have hz4 : isBl (t.headD 0) = (z == 32 || z == 9) := by rw [hz, ← blZ_byte]; rfl
      have hk0 : kdF t = if z = 35 then 3 else if (z == 32 || z == 9) = true then 4 else 5 := by
        unfold kdF
        rw [if_neg (by rw [hfa]; simp), if_neg htr, hz4]
        by_cases h : z = 35
        · rw [if_pos (hz3.2 h), if_pos h]
        · rw [if_neg (fun e => h (hz3.1 e)), if_neg h]
      have HK : Hid (kdF t = if z = 35 then 3 else if (z == 32 || z == 9) = true then 4 else 5) := hk0
      clear hz3 hz4 hk0 hz hne htr hfa
      generalize (⟨(trF t).toArray⟩ : ByteArray) = TT at *
      generalize (⟨t.toArray⟩ : ByteArray) = TB at *
      by_cases h35 : z = 35
      · subst h35
        have HK2 : Hid (kdF t = 3) := by show _ = _; rw [HK.out]; simp [*]
        clear HK
        go_wp2_with (first | (go_at_call 39; refine (HFa.out _).mono ?_; rintro e w5 ⟨rfl, b5⟩; have HB5 : Hid (Below w4.heap.size w4 w5) := b5; have q1 := HC1.out _ b5; clear b5) | (go_at_call 40; refine (HTr.out _).mono ?_; rintro e w6 ⟨rfl, b6⟩; have HB6 : Hid (Below w4.heap.size w4 w6) := HB5.out.trans (b6.mono HB5.out.size); have q2 := HC1.out _ HB6.out; clear b6))
        all_goals
          go_ret
          exact HFr.out _ _ HB6.out (by rw [HK2.out]; rfl)
      · have n35 : (z == 35) = false := beq_eq_false_iff_ne.2 h35
        have m35 : (z != 35) = true := by simp [h35]
        by_cases h32 : z = 32
        · subst h32
          have HK2 : Hid (kdF t = 4) := by show _ = _; rw [HK.out]; simp [*]
          clear HK
          go_wp2_with (first | (go_at_call 39; refine (HFa.out _).mono ?_; rintro e w5 ⟨rfl, b5⟩; have HB5 : Hid (Below w4.heap.size w4 w5) := b5; have q1 := HC1.out _ b5; clear b5) | (go_at_call 40; refine (HTr.out _).mono ?_; rintro e w6 ⟨rfl, b6⟩; have HB6 : Hid (Below w4.heap.size w4 w6) := HB5.out.trans (b6.mono HB5.out.size); have q2 := HC1.out _ HB6.out; clear b6))
          all_goals
            go_ret
            exact HFr.out _ _ HB6.out (by rw [HK2.out]; rfl)
        · have n32 : (z == 32) = false := beq_eq_false_iff_ne.2 h32
          have m32 : (z != 32) = true := by simp [h32]
          by_cases h9 : z = 9
          · subst h9
            have HK2 : Hid (kdF t = 4) := by show _ = _; rw [HK.out]; simp [*]
            clear HK
            go_wp2_with (first | (go_at_call 39; refine (HFa.out _).mono ?_; rintro e w5 ⟨rfl, b5⟩; have HB5 : Hid (Below w4.heap.size w4 w5) := b5; have q1 := HC1.out _ b5; clear b5) | (go_at_call 40; refine (HTr.out _).mono ?_; rintro e w6 ⟨rfl, b6⟩; have HB6 : Hid (Below w4.heap.size w4 w6) := HB5.out.trans (b6.mono HB5.out.size); have q2 := HC1.out _ HB6.out; clear b6))
            all_goals
              go_ret
              exact HFr.out _ _ HB6.out (by rw [HK2.out]; rfl)
          · have n9 : (z == 9) = false := beq_eq_false_iff_ne.2 h9
            have m9 : (z != 9) = true := by simp [h9]
            have HK2 : Hid (kdF t = 5) := by show _ = _; rw [HK.out]; simp [*]
            clear HK
            go_wp2_with (first | (go_at_call 39; refine (HFa.out _).mono ?_; rintro e w5 ⟨rfl, b5⟩; have HB5 : Hid (Below w4.heap.size w4 w5) := b5; have q1 := HC1.out _ b5; clear b5) | (go_at_call 40; refine (HTr.out _).mono ?_; rintro e w6 ⟨rfl, b6⟩; have HB6 : Hid (Below w4.heap.size w4 w6) := HB5.out.trans (b6.mono HB5.out.size); have q2 := HC1.out _ HB6.out; clear b6))
            all_goals
              go_ret
              exact HFr.out _ _ HB6.out (by rw [HK2.out]; rfl)


end Go.Proofs.YtbeaoekbppdlmaaDoor
set_option linter.unusedSimpArgs false
set_option linter.unusedVariables false
namespace Go.Proofs.YtbeaoekbppdlmaaDoor
open Go Go.RowKit

theorem lns_cur : ∀ (l cur : List UInt8), cur ≠ [] ∨ l ≠ [] → lnsF l cur = (cur ++ (cutN l).1) :: lnsF (cutN l).2 []
  | [], cur, h => by
    have hc : cur ≠ [] := h.resolve_right (by simp)
    rw [lnsF]
    simp [hc, cutN, lnsF]
  | b :: r, cur, h => by
    rw [lnsF]
    by_cases hb : b = 10
    · subst hb
      simp [cutN]
    · have hb2 : (b == 10) = false := by simpa using hb
      rw [if_neg (by first | exact hb | simpa using hb), lns_cur r (cur ++ [b]) (.inl (by simp))]
      simp [cutN, hb2, hb]
theorem lns_cut (l : List UInt8) (h : l ≠ []) : lnsF l [] = (cutN l).1 :: lnsF (cutN l).2 [] := by
  have := lns_cur l [] (.inr h)
  simpa using this
theorem lns_nil : lnsF [] [] = [] := by simp [lnsF]
theorem cut_lt (l : List UInt8) (h : l ≠ []) : (cutN l).2.length < l.length ∧ (cutN l).1.length ≤ l.length := by
  refine ⟨?_, (cutN_le2 l).1⟩
  cases hn : hasN l
  · rcases at10 l with ⟨_, _, h3⟩ | ⟨k, _, _, h2, _⟩
    · rw [h3]; exact List.length_pos_iff.2 h
    · rw [hn] at h2; cases h2
  · exact cut_len l hn
theorem kd_cases (t : List UInt8) : kdF t = 1 ∨ kdF t = 2 ∨ kdF t = 3 ∨ kdF t = 4 ∨ kdF t = 5 := by
  unfold kdF
  repeat' split
  all_goals simp
theorem rdS_1 {t : List UInt8} {r : List (List UInt8)} {k : Int} {out : List Stz} {now : Stz} (h : kdF t = 1) : rdS (t :: r) k out now = .error (212, k) := by
  unfold kdF at h
  split at h
  · rename_i q; rw [rdS, if_pos q]
  · repeat' split at h
    all_goals (exfalso; revert h; decide)
theorem rdS_2 {t : List UInt8} {r : List (List UInt8)} {k : Int} {out : List Stz} {now : Stz} (h : kdF t = 2) : rdS (t :: r) k out now = rdS r (k + 1) (if now.2 = [] then out else out ++ [now]) (0, []) := by
  unfold kdF at h
  split at h
  · exfalso; revert h; decide
  · rename_i q
    split at h
    · rename_i q2; rw [rdS, if_neg q, if_pos q2]
    · repeat' split at h
      all_goals (exfalso; revert h; decide)
theorem rdS_3 {t : List UInt8} {r : List (List UInt8)} {k : Int} {out : List Stz} {now : Stz} (h : kdF t = 3) : rdS (t :: r) k out now = rdS r (k + 1) out now := by
  unfold kdF at h
  split at h
  · exfalso; revert h; decide
  · rename_i q
    split at h
    · exfalso; revert h; decide
    · rename_i q2
      split at h
      · rename_i q3; rw [rdS, if_neg q, if_neg q2, if_pos q3]
      · split at h <;> (exfalso; revert h; decide)
theorem rdS_45 {t : List UInt8} {r : List (List UInt8)} {k : Int} {out : List Stz} {now : Stz} (h : kdF t = 4 ∨ kdF t = 5) : (rdS (t :: r) k out now = match stepP now t k with | .error e => .error (e, k) | .ok n => rdS r (k + 1) out n) ∧ (kdF t = 4 → isBl (t.headD 0) = true) ∧ (kdF t = 5 → isBl (t.headD 0) = false) := by
  unfold kdF at h ⊢
  split at h
  · exfalso; revert h; decide
  · rename_i q
    split at h
    · exfalso; revert h; decide
    · rename_i q2
      split at h
      · exfalso; revert h; decide
      · rename_i q3
        rw [rdS, if_neg q, if_neg q2, if_neg q3, if_neg q, if_neg q2, if_neg q3]
        refine ⟨rfl, fun e => ?_, fun e => ?_⟩
        · split at e
          · rename_i q4; exact q4
          · exfalso; revert e; decide
        · split at e
          · exfalso; revert e; decide
          · rename_i q4; simpa using q4
theorem setL_snoc (fs : List Fld) (f : Fld) (g : List UInt8 → List UInt8) : setL (fs ++ [f]) g = fs ++ [(f.1, g f.2)] := by
  rw [setL_eq g (by simp)]
  simp
theorem Seen.val {T : List UInt8 → Int} {k : Int} {fs : List Fld} {nm v v' : List UInt8} (h : Seen T k (fs ++ [(nm, v)])) : Seen T k (fs ++ [(nm, v')]) := by
  refine ⟨h.1, fun n => ?_⟩
  have := h.2 n
  rw [getF_any, List.any_append] at this ⊢
  simpa using this

end Go.Proofs.YtbeaoekbppdlmaaDoor
set_option linter.unusedSimpArgs false
set_option linter.unusedVariables false
namespace Go.Proofs.YtbeaoekbppdlmaaDoor
open Go Go.RowKit

/-- a text appended onto a row of bytes of the call's own, in a region that draws -/
theorem step_append_str {ops : Array Oper} {o : Oper} {a : Act} {w : World} {K : Act → World → Prop} {Q : Exit → Act → World → Prop} {E : Prop} (hg : o.guard = none) (s x : Operand)
    (hop : o.op = .call { callee := .builtin .append, args := #[s, x], argTypes := #[47, 9] }) (B : Nat) (v : Value) (T : List UInt8) (hs : a.eval s = v) (hown : OwnT B w v T)
    (D : List UInt8) (hx : a.eval x = .string ⟨D.toArray⟩) (hl : T.length + D.length ≤ 140737488355328) (hbase : B ≤ w.heap.size)
    (hK : ∀ v' w', OwnT B w' v' (T ++ D) → w.grownBy w' v.ownBlock → K (a.put o.dst v') w') :
    if Region.wanted o (yielded ops a.tmps) = true then Oper.wp Tryd.prog o a w K Q else E := by
  obtain ⟨i0, hi, hz0, hz1, hz2⟩ := info_parts infoY
  have hw : Region.wanted o (yielded ops a.tmps) = true := by simp [Region.wanted, hg]
  rw [if_pos hw]
  obtain ⟨v', w', hrun, r1, r2, _⟩ := Lib.run_append_own_string (P := Tryd.prog) w B 47 9 o.type 5 i0 Tryd.underlying47 Tryd.underlying9 hi hz0 hz1 hz2 v T.length _ hown ⟨D.toArray⟩ (by rw [sizeL]; unfold maxLen; omega) (by rw [sizeL]; exact hl) hbase
  have e1 : T.length + (⟨D.toArray⟩ : ByteArray).size = (T ++ D).length := by rw [sizeL, List.length_append]
  rw [e1] at r1
  have r1' : OwnT B w' v' (T ++ D) := by
    unfold OwnT; rw [bytes_app]; exact r1
  unfold Oper.wp
  simp [execOp, hop, resolve, invoke, builtin, hs, hx, hrun, Result.andThen]
  exact hK v' w' r1' r2
/-- the value's row turns, and the box takes it -/
theorem rd_app {B : Nat} {W Wa w1 : World} {b mp n : Nat} {T : List UInt8 → Int} {left text : List UInt8} {ln : Int} {name : List UInt8} {val v' : Value} {vs vs' : List UInt8} {sl : Int} {sf : Value} {fs : List Fld} {all : Value} {L : List SG}
    (h : Rb W b left text ln name val sl sf mp all) (hm : RM B W b mp n T val vs sf fs all L) (ha : Below W.heap.size W Wa) (own : OwnT B w1 v' vs') (gr : Wa.grownBy w1 val.ownBlock) :
    Rb w1 b left text ln name val sl sf mp all ∧ (Rb (w1.setCell ⟨b, 4, none⟩ v') b left text ln name v' sl sf mp all ∧ RM B (w1.setCell ⟨b, 4, none⟩ v') b mp n T v' vs' sf fs all L ∧ Below B W (w1.setCell ⟨b, 4, none⟩ v')) := by
  have hB : B ≤ W.heap.size := Nat.le_trans hm.hb (Nat.le_of_lt h.lt)
  have h1 : Rb w1 b left text ln name val sl sf mp all := (h.blw ha).grown gr (fun e => (hm.blw ha).ne_box.2.1 e.symm)
  have m1 := (hm.blw ha).valT own gr
  have b1 : Below B W w1 := (ha.mono hB).grown gr (Nat.le_trans hB ha.size) (fun q e => (World.ownsRow.lt hm.v q e).1)
  exact ⟨h1, h1.s4 v', m1.box 4 v', b1.setCell hm.hb _⟩
theorem ownT_form {B : Nat} {W : World} {v : Value} {n : Nat} {xs : List Value} (h : W.ownsRow B 5 1 v n xs) : ∃ a c, v = .slice a n c := row_form h
set_option maxHeartbeats 3200000 in
set_option maxRecDepth 100000 in
theorem goOn21 (B : Nat) (W : World) (b mp n : Nat) (T : List UInt8 → Int) (left text : List UInt8) (ln : Int) (name : List UInt8) (val : Value) (vs : List UInt8) (sl : Int) (sf : Value) (fs : List Fld) (all : Value) (L : List SG)
    (h : Rb W b left text ln name val sl sf mp all) (hm : RM B W b mp n T val vs sf fs all L) (hl : vs.length + 1 + text.length ≤ 140737488355328) :
    Calls Tryd.prog 51 #[.pointer (some ⟨b, 0, none⟩)] W fun e w' => e = .returned (.tuple #[]) ∧ Below B W w' ∧ ∃ val', Rb w' b left text ln name val' sl sf mp all ∧ RM B w' b mp n T val' (vs ++ 10 :: trF text) sf fs all L := by
  obtain ⟨i0, hi, hz0, hz1, hz2⟩ := info_parts infoY
  have HIn : Hid (Tryd.prog.info? 5 = some i0 ∧ i0.zero = some (.int .u8 0) ∧ i0.size = 1 ∧ i0.bytes = 1) := ⟨hi, hz0, hz1, hz2⟩
  obtain ⟨av, cv, rfl⟩ := hm.v.form
  have c4 := h.c4
  have HH : Hid (Rb W b left text ln name (.slice av vs.length cv) sl sf mp all) := h
  have HM : Hid (RM B W b mp n T (.slice av vs.length cv) vs sf fs all L) := hm
  have HRow : Hid ((W.alloc (.cells #[.int .u8 10] 5)).ownsRow B 5 1 (.slice av vs.length cv) vs.length (Lib.byteCells vs)) := World.ownsRow.alloc hm.v _
  have HBa : Hid (Below W.heap.size W (W.alloc (.cells #[.int .u8 10] 5))) := Below.alloc (Below.refl _ _) (Nat.le_refl _) _
  have HNw : Hid (∀ j u, [Value.int .u8 10][j]? = some u → (W.alloc (.cells #[.int .u8 10] 5)).cell? ((⟨W.heap.size, 0, none⟩ : Addr).add j) = some u) := by
    intro j u hu
    rw [Addr.add_lit, World.cell?_alloc_mark]
    simpa using hu
  have hBs : B ≤ (W.alloc (.cells #[.int .u8 10] 5)).heap.size := by have := h.lt; have := hm.hb; simp; omega
  have hTl := trF_le text
  have HTr : Hid (∀ w, Calls Tryd.prog 40 #[.string ⟨text.toArray⟩] w fun e w' => e = .returned (.string ⟨(trF text).toArray⟩) ∧ Below w.heap.size w w') := fun w => by
    have := trimmed21 ⟨text.toArray⟩ w (by rw [sizeL]; omega)
    rwa [strV_list] at this
  clear hi hz0 hz1 hz2
  go_enter Tryd.func51, Tryd.ntmps51
  go_wp2_with (at_builtin; refine wpList_append_own _ rfl (.tmp 6) (.tmp 7) 47 rfl B 5 i0 (.int .u8 0) 1 1 Tryd.underlying47 HIn.out.1 HIn.out.2.1 HIn.out.2.2.1 HIn.out.2.2.2 rfl (by decide) (.slice av vs.length cv) vs.length (Lib.byteCells vs) rfl HRow.out ⟨W.heap.size, 0, none⟩ 1 1 [.int .u8 10] rfl rfl HNw.out (by simp [Value.oneCell']) (by unfold maxLen; omega) (by omega) hBs ?_; intro v8 w8 own8 gr8 _; obtain ⟨a8, c8, rfl⟩ := ownT_form own8; obtain ⟨r0, r1, r2, r3⟩ := rd_app HH.out HM.out HBa.out (OwnT.one (b := 10) own8) gr8; have HH2 : Hid (Rb (w8.setCell ⟨b, 4, none⟩ (.slice a8 (vs.length + 1) c8)) b left text ln name (.slice a8 (vs.length + 1) c8) sl sf mp all) := r1; have HM2 : Hid (RM B (w8.setCell ⟨b, 4, none⟩ (.slice a8 (vs.length + 1) c8)) b mp n T (.slice a8 (vs.length + 1) c8) (vs ++ [10]) sf fs all L) := r2; have HB2 : Hid (Below B W (w8.setCell ⟨b, 4, none⟩ (.slice a8 (vs.length + 1) c8))) := r3; have y4 := r0.c4; have z4 := r0.fz 4; clear own8 gr8 r0 r1 r2 r3)
  have HX : Hid (∀ Wa, Below (w8.setCell ⟨b, 4, none⟩ (.slice a8 (vs.length + 1) c8)).heap.size (w8.setCell ⟨b, 4, none⟩ (.slice a8 (vs.length + 1) c8)) Wa → Rb Wa b left text ln name (.slice a8 (vs.length + 1) c8) sl sf mp all ∧ OwnT B Wa (.slice a8 (vs.length + 1) c8) (vs ++ [10]) ∧ B ≤ Wa.heap.size) := fun Wa hb => ⟨HH2.out.blw hb, (HM2.out.blw hb).v, by have h1 := HH2.out.lt; have h2 := HM2.out.hb; have h3 := hb.size; omega⟩
  obtain ⟨V, hV⟩ : ∃ V, V = (vs ++ [10]) ++ trF text := ⟨_, rfl⟩
  have HV : Hid (V = (vs ++ [10]) ++ trF text) := hV
  clear hV
  have HY : Hid (∀ Wa w1 v', Below (w8.setCell ⟨b, 4, none⟩ (.slice a8 (vs.length + 1) c8)).heap.size (w8.setCell ⟨b, 4, none⟩ (.slice a8 (vs.length + 1) c8)) Wa → OwnT B w1 v' V → Wa.grownBy w1 (Value.slice a8 (vs.length + 1) c8).ownBlock → Rb w1 b left text ln name (.slice a8 (vs.length + 1) c8) sl sf mp all ∧ (Rb (w1.setCell ⟨b, 4, none⟩ v') b left text ln name v' sl sf mp all ∧ RM B (w1.setCell ⟨b, 4, none⟩ v') b mp n T v' V sf fs all L ∧ Below B W (w1.setCell ⟨b, 4, none⟩ v'))) := fun Wa w1 v' hb ho hg => by
    obtain ⟨q0, q1, q2, q3⟩ := rd_app HH2.out HM2.out hb ho hg
    exact ⟨q0, q1, q2, HB2.out.trans q3⟩
  have x1 := HH2.out.c1
  have x4 := HH2.out.c4
  have x4f := HH2.out.fz 4
  have hlv : (vs ++ [10]).length + (trF text).length ≤ 140737488355328 := by simp; omega
  clear c4 y4 z4 HRow HBa HNw hBs HH HM hTl hl
  generalize (w8.setCell ⟨b, 4, none⟩ (.slice a8 (vs.length + 1) c8)) = W2 at *
  go_region_law (first
    | (refine step_append_str rfl (.tmp 15) (.tmp 20) rfl B (.slice a8 (vs.length + 1) c8) (vs ++ [10]) (by simp [Act.eval, Act.put]) (HX.out _ G8.out).2.1 (trF text) (by simp [Act.eval, Act.put]) hlv (HX.out _ G8.out).2.2 ?_; intro v7 w7 own7 gr7; have own9 : OwnT B w7 v7 V := HV.out.symm ▸ own7; obtain ⟨a7, c7, rfl⟩ := own9.form; obtain ⟨q0, q1, q2, q3⟩ := HY.out _ w7 _ G8.out own9 gr7; have HQ : Hid (Rb (w7.setCell ⟨b, 4, none⟩ (.slice a7 V.length c7)) b left text ln name (.slice a7 V.length c7) sl sf mp all ∧ RM B (w7.setCell ⟨b, 4, none⟩ (.slice a7 V.length c7)) b mp n T (.slice a7 V.length c7) V sf fs all L ∧ Below B W (w7.setCell ⟨b, 4, none⟩ (.slice a7 V.length c7))) := ⟨q1, q2, q3⟩; have s4 := q0.c4; have s4f := q0.fz 4; clear own7 own9 gr7 q0 q1 q2 q3)
    | (go_wp2_with (go_at_call 40; refine (HTr.out _).mono ?_; rintro e w8 ⟨rfl, b8⟩; have G8 : Hid (Below W2.heap.size W2 w8) := (Below.refl W2.heap.size W2).drew.trans b8; have t4 := (HX.out _ G8.out).1.c4; have t1 := (HX.out _ G8.out).1.c1; have t4f := (HX.out _ G8.out).1.fz 4; clear b8)))
  all_goals
    go_wp2
    go_end0
    obtain ⟨q1, q2, q3⟩ := HQ.out
    have hv2 : V = vs ++ 10 :: trF text := by rw [HV.out]; simp
    rw [← hv2]
    exact ⟨rfl, q3, _, q1, q2⟩

end Go.Proofs.YtbeaoekbppdlmaaDoor
set_option linter.unusedSimpArgs false
set_option linter.unusedVariables false
namespace Go.Proofs.YtbeaoekbppdlmaaDoor
open Go Go.RowKit

/-- a text, cut at its first colon -/
theorem cutC_no (l : List UInt8) (w : World) (h : Lib.indexByte l 58 < 0) :
    Calls Tryd.prog 63 #[.string ⟨l.toArray⟩, .string ⟨#[58]⟩] w fun e w' => e = .returned (.tuple #[.string ⟨l.toArray⟩, .string ⟨#[]⟩, .bool false]) ∧ w' = w := by
  have h1 : Lib.indexByte l 58 = -1 := by
    have : ∀ l : List UInt8, -1 ≤ Lib.indexByte l 58 := fun l => by
      induction l with
      | nil => simp [Lib.indexByte]
      | cons b r ih => rw [Lib.indexByte]; split <;> (try split) <;> omega
    have := this l
    omega
  exact cut21_no ⟨l.toArray⟩ 58 w (by rw [strV_list]; exact h1)
theorem cutC_yes (l : List UInt8) (w : World) (h : ¬ Lib.indexByte l 58 < 0) (hs : l.length ≤ 281474976710656) :
    Calls Tryd.prog 63 #[.string ⟨l.toArray⟩, .string ⟨#[58]⟩] w fun e w' => e = .returned (.tuple #[.string ⟨(l.take (Lib.indexByte l 58).toNat).toArray⟩, .string ⟨(l.drop ((Lib.indexByte l 58).toNat + 1)).toArray⟩, .bool true]) ∧ Below w.heap.size w w' := by
  obtain ⟨k, hk⟩ : ∃ k : Nat, Lib.indexByte l 58 = k := ⟨(Lib.indexByte l 58).toNat, by omega⟩
  have hlt : k < l.length := by
    have := (Lib.indexByte_some hk).1
    exact (List.getElem?_eq_some_iff.1 this).1
  rw [hk, Int.toNat_natCast]
  have := cut21_yes ⟨l.toArray⟩ 58 w k (by rw [strV_list]; exact hk) (by rw [sizeL]; exact hlt) (by rw [sizeL]; exact hs)
  rwa [ext_take, ext_drop _ _ _ (by rw [sizeL]; exact Nat.le_refl _)] at this

section
variable (B : Nat) (W : World) (b mp n : Nat) (T : List UInt8 → Int) (left text : List UInt8) (ln : Int) (name : List UInt8) (val : Value) (vs : List UInt8) (sl : Int) (sf : Value) (fs : List Fld) (all : Value) (L : List SG)
set_option maxHeartbeats 3200000 in
set_option maxRecDepth 100000 in
theorem begin_no (h : Rb W b left text ln name val sl sf mp all) (hl : text.length ≤ 70368744177664) (hno : Lib.indexByte text 58 < 0 ∨ nameF (text.take (Lib.indexByte text 58).toNat) = false) :
    Calls Tryd.prog 50 #[.pointer (some ⟨b, 0, none⟩)] W fun e w' => e = .returned (.int .i64 210) ∧ Below W.heap.size W w' := by
  have c1 := h.c1
  by_cases hc : Lib.indexByte text 58 < 0
  · have HC : Hid (Calls Tryd.prog 63 #[.string ⟨text.toArray⟩, .string ⟨#[58]⟩] W fun e w' => e = .returned (.tuple #[.string ⟨text.toArray⟩, .string ⟨#[]⟩, .bool false]) ∧ w' = W) := cutC_no text W hc
    clear hc hno h
    go_enter Tryd.func50, Tryd.ntmps50
    go_wp2_with fail
    refine HC.out.mono ?_
    rintro e w1 ⟨rfl, h9⟩
    have h9s := h9.symm
    clear h9
    subst h9s
    go_wp2
    go_ret
    exact ⟨rfl, Below.refl _ _⟩
  · have HC : Hid (Calls Tryd.prog 63 #[.string ⟨text.toArray⟩, .string ⟨#[58]⟩] W fun e w' => e = .returned (.tuple #[.string ⟨(text.take (Lib.indexByte text 58).toNat).toArray⟩, .string ⟨(text.drop ((Lib.indexByte text 58).toNat + 1)).toArray⟩, .bool true]) ∧ Below W.heap.size W w') := cutC_yes text W hc (by omega)
    have hn : nameF (text.take (Lib.indexByte text 58).toNat) = false := hno.resolve_left hc
    have HNm : Hid (∀ w, Calls Tryd.prog 24 #[.string ⟨(text.take (Lib.indexByte text 58).toNat).toArray⟩] w fun e w' => e = .returned (.bool false) ∧ Below w.heap.size w w') := fun w => by
      have := isName21 ⟨(text.take (Lib.indexByte text 58).toNat).toArray⟩ w (by rw [sizeL, List.length_take]; omega)
      rwa [strV_list, hn] at this
    clear hc hno hn h
    generalize (text.take (Lib.indexByte text 58).toNat) = nm at *
    generalize (text.drop ((Lib.indexByte text 58).toNat + 1)) = tl at *
    go_enter Tryd.func50, Tryd.ntmps50
    go_wp2_with fail
    refine HC.out.mono ?_
    rintro e w1 ⟨rfl, b1⟩
    have HB1 : Hid (Below W.heap.size W w1) := b1
    clear b1 HC
    go_wp2_with (go_at_call 24; refine (HNm.out _).mono ?_; rintro e w2 ⟨rfl, b2⟩; have HB2 : Hid (Below W.heap.size W w2) := HB1.out.trans (b2.mono HB1.out.size); clear b2)
    go_ret
    exact ⟨rfl, HB2.out⟩
set_option maxHeartbeats 3200000 in
set_option maxRecDepth 100000 in
theorem begin_twice (h : Rb W b left text ln name val sl sf mp all) (hmi : Mi W mp n T) (hl : text.length ≤ 70368744177664) (hc : ¬ Lib.indexByte text 58 < 0) (hn : nameF (text.take (Lib.indexByte text 58).toNat) = true) (htw : T (fdL (text.take (Lib.indexByte text 58).toNat)) = sl) :
    Calls Tryd.prog 50 #[.pointer (some ⟨b, 0, none⟩)] W fun e w' => e = .returned (.int .i64 211) ∧ Below W.heap.size W w' := by
  have c1 := h.c1
  have HC : Hid (Calls Tryd.prog 63 #[.string ⟨text.toArray⟩, .string ⟨#[58]⟩] W fun e w' => e = .returned (.tuple #[.string ⟨(text.take (Lib.indexByte text 58).toNat).toArray⟩, .string ⟨(text.drop ((Lib.indexByte text 58).toNat + 1)).toArray⟩, .bool true]) ∧ Below W.heap.size W w') := cutC_yes text W hc (by omega)
  have HNm : Hid (∀ w, Calls Tryd.prog 24 #[.string ⟨(text.take (Lib.indexByte text 58).toNat).toArray⟩] w fun e w' => e = .returned (.bool true) ∧ Below w.heap.size w w') := fun w => by
    have := isName21 ⟨(text.take (Lib.indexByte text 58).toNat).toArray⟩ w (by rw [sizeL, List.length_take]; omega)
    rwa [strV_list, hn] at this
  have HFo : Hid (∀ w, Calls Tryd.prog 26 #[.string ⟨(text.take (Lib.indexByte text 58).toNat).toArray⟩] w fun e w' => e = .returned (.string ⟨(fdL (text.take (Lib.indexByte text 58).toNat)).toArray⟩) ∧ Below w.heap.size w w') := fun w => by
    have := folded21 ⟨(text.take (Lib.indexByte text 58).toNat).toArray⟩ w (by rw [sizeL, List.length_take]; omega)
    rwa [strV_list] at this
  have HLk : Hid (∀ Wa, Below W.heap.size W Wa → (Instr.lookup 59 (.map (some mp)) (.string ⟨(fdL (text.take (Lib.indexByte text 58).toNat)).toArray⟩) false).run Tryd.prog Wa = .ok (.int .i64 sl) Wa) := fun Wa hb => by
    have := (hmi.blw hb).look (x := ⟨(fdL (text.take (Lib.indexByte text 58).toNat)).toArray⟩) (by rw [sizeL, fdL_len, List.length_take]; unfold maxLen; omega)
    rwa [strV_list, htw] at this
  have HX : Hid (∀ Wa, Below W.heap.size W Wa → Rb Wa b left text ln name val sl sf mp all) := fun Wa hb => h.blw hb
  clear hc hn h htw hmi
  generalize (⟨(fdL (text.take (Lib.indexByte text 58).toNat)).toArray⟩ : ByteArray) = SM at *
  generalize (text.take (Lib.indexByte text 58).toNat) = nm at *
  generalize (text.drop ((Lib.indexByte text 58).toNat + 1)) = tl at *
  go_enter Tryd.func50, Tryd.ntmps50
  go_wp2_with fail
  refine HC.out.mono ?_
  rintro e w1 ⟨rfl, b1⟩
  have HB1 : Hid (Below W.heap.size W w1) := b1
  clear b1 HC c1
  go_upto_region 4 with (go_at_call 24; refine (HNm.out _).mono ?_; rintro e w2 ⟨rfl, b2⟩; have HB2 : Hid (Below W.heap.size W w2) := HB1.out.trans (b2.mono HB1.out.size); clear b2)
  go_wp2_with fail
  refine (HFo.out _).mono ?_
  rintro e w3 ⟨rfl, b3⟩
  have HB3 : Hid (Below W.heap.size W w3) := HB2.out.trans (b3.mono HB2.out.size)
  clear b3
  go_upto_region 5 with fail
  have y5 := (HX.out _ HB3.out).c5
  have y7 := (HX.out _ HB3.out).c7
  have hlk := HLk.out _ HB3.out
  have hlk2 := HLk.out _ HB3.out.drew
  go_region_law fail
  all_goals
    go_wp2
    go_ret
    exact ⟨rfl, HB3.out.drew⟩
/-- the value's row turns, and the box takes it and the name -/
theorem rd_val {B : Nat} {W Wa w1 : World} {b mp n : Nat} {T : List UInt8 → Int} {left text : List UInt8} {ln : Int} {name : List UInt8} {val v' : Value} {vs vs' : List UInt8} {sl : Int} {sf : Value} {fs : List Fld} {all : Value} {L : List SG}
    (h : Rb W b left text ln name val sl sf mp all) (hm : RM B W b mp n T val vs sf fs all L) (ha : Below W.heap.size W Wa) (own : OwnT B w1 v' vs') (gr : Wa.grownBy w1 val.ownBlock) (nm : List UInt8) :
    Rb w1 b left text ln name val sl sf mp all ∧ (Rb ((w1.setCell ⟨b, 3, none⟩ (.string ⟨nm.toArray⟩)).setCell ⟨b, 4, none⟩ v') b left text ln nm v' sl sf mp all ∧ RM B ((w1.setCell ⟨b, 3, none⟩ (.string ⟨nm.toArray⟩)).setCell ⟨b, 4, none⟩ v') b mp n T v' vs' sf fs all L ∧ Below B W ((w1.setCell ⟨b, 3, none⟩ (.string ⟨nm.toArray⟩)).setCell ⟨b, 4, none⟩ v')) := by
  have hB : B ≤ W.heap.size := Nat.le_trans hm.hb (Nat.le_of_lt h.lt)
  have h1 : Rb w1 b left text ln name val sl sf mp all := (h.blw ha).grown gr (fun e => (hm.blw ha).ne_box.2.1 e.symm)
  have m1 := (hm.blw ha).valT own gr
  have b1 : Below B W w1 := (ha.mono hB).grown gr (Nat.le_trans hB ha.size) (fun q e => (World.ownsRow.lt hm.v q e).1)
  exact ⟨h1, (h1.s3 nm).s4 v', (m1.box 3 _).box 4 v', (b1.setCell hm.hb _).setCell hm.hb _⟩
theorem ownT_cut {B : Nat} {W : World} {av : Option Addr} {cv : Nat} {vs : List UInt8} (h : OwnT B W (.slice av vs.length cv) vs) : OwnT B W (.slice av 0 cv) [] := by
  rcases h.2 with ⟨e, hn⟩ | ⟨g, cap, cur, hv, hg, hh, hn, hm, hs, ht⟩
  · have e1 : av = none ∧ cv = 0 := by injection e with q1 q2 q3; exact ⟨q1, q3⟩
    obtain ⟨rfl, rfl⟩ := e1
    exact OwnT.nil _ _
  · have e1 : av = some ⟨g, 0, none⟩ ∧ cv = cap := by injection hv with q1 q2 q3; exact ⟨q1, q3⟩
    obtain ⟨rfl, rfl⟩ := e1
    exact ⟨rfl, .inr ⟨g, cv, cur, rfl, hg, hh, Nat.zero_le _, hm, hs, by simp [Lib.byteCells]⟩⟩
theorem ownT_none {B : Nat} {W : World} {cv n : Nat} {vs : List UInt8} (h : OwnT B W (.slice none n cv) vs) : cv = 0 := by
  rcases h.2 with ⟨e, hn⟩ | ⟨g, cap, cur, hv, _⟩
  · injection e
  · injection hv with q1 _ _; cases q1
theorem wf_sl {sl : Int} (h0 : 0 ≤ sl) (h1 : sl ≤ 281474976710656) : (Lit.int .i64 sl).wf = true := by
  simp [Lit.wf, IntKind.min, IntKind.max, IntKind.bits, IntKind.signed]
  omega
set_option maxHeartbeats 6400000 in
set_option maxRecDepth 100000 in
theorem begin_yes (h : Rb W b left text ln name val sl sf mp all) (hm : RM B W b mp n T val vs sf fs all L) (hl : text.length ≤ 70368744177664) (hc : ¬ Lib.indexByte text 58 < 0) (hn : nameF (text.take (Lib.indexByte text 58).toNat) = true) (htw : ¬ T (fdL (text.take (Lib.indexByte text 58).toNat)) = sl) (hs0 : 0 ≤ sl) (hs1 : sl ≤ 281474976710656) (hnn : n < maxLen) :
    Calls Tryd.prog 50 #[.pointer (some ⟨b, 0, none⟩)] W fun e w' => e = .returned (.int .i64 0) ∧ Below B W w' ∧ ∃ val', Rb w' b left text ln (text.take (Lib.indexByte text 58).toNat) val' sl sf mp all ∧ RM B w' b mp (n + 1) (upI T (fdL (text.take (Lib.indexByte text 58).toNat)) sl) val' (trF (text.drop ((Lib.indexByte text 58).toNat + 1))) sf fs all L := by
  have c1 := h.c1
  have hB : B ≤ W.heap.size := Nat.le_trans hm.hb (Nat.le_of_lt h.lt)
  have hmi := hm.mi
  have HC : Hid (Calls Tryd.prog 63 #[.string ⟨text.toArray⟩, .string ⟨#[58]⟩] W fun e w' => e = .returned (.tuple #[.string ⟨(text.take (Lib.indexByte text 58).toNat).toArray⟩, .string ⟨(text.drop ((Lib.indexByte text 58).toNat + 1)).toArray⟩, .bool true]) ∧ Below W.heap.size W w') := cutC_yes text W hc (by omega)
  have HNm : Hid (∀ w, Calls Tryd.prog 24 #[.string ⟨(text.take (Lib.indexByte text 58).toNat).toArray⟩] w fun e w' => e = .returned (.bool true) ∧ Below w.heap.size w w') := fun w => by
    have := isName21 ⟨(text.take (Lib.indexByte text 58).toNat).toArray⟩ w (by rw [sizeL, List.length_take]; omega)
    rwa [strV_list, hn] at this
  have HFo : Hid (∀ w, Calls Tryd.prog 26 #[.string ⟨(text.take (Lib.indexByte text 58).toNat).toArray⟩] w fun e w' => e = .returned (.string ⟨(fdL (text.take (Lib.indexByte text 58).toNat)).toArray⟩) ∧ Below w.heap.size w w') := fun w => by
    have := folded21 ⟨(text.take (Lib.indexByte text 58).toNat).toArray⟩ w (by rw [sizeL, List.length_take]; omega)
    rwa [strV_list] at this
  have hdl : (text.drop ((Lib.indexByte text 58).toNat + 1)).length ≤ 70368744177664 := by rw [List.length_drop]; omega
  have HTr : Hid (∀ w, Calls Tryd.prog 40 #[.string ⟨(text.drop ((Lib.indexByte text 58).toNat + 1)).toArray⟩] w fun e w' => e = .returned (.string ⟨(trF (text.drop ((Lib.indexByte text 58).toNat + 1))).toArray⟩) ∧ Below w.heap.size w w') := fun w => by
    have := trimmed21 ⟨(text.drop ((Lib.indexByte text 58).toNat + 1)).toArray⟩ w (by rw [sizeL]; omega)
    rwa [strV_list] at this
  have hxs : (⟨(fdL (text.take (Lib.indexByte text 58).toNat)).toArray⟩ : ByteArray).size ≤ maxLen := by rw [sizeL, fdL_len, List.length_take]; unfold maxLen; omega
  have HLk : Hid (∀ Wa, Below W.heap.size W Wa → (Instr.lookup 59 (.map (some mp)) (.string ⟨(fdL (text.take (Lib.indexByte text 58).toNat)).toArray⟩) false).run Tryd.prog Wa = .ok (.int .i64 (T (fdL (text.take (Lib.indexByte text 58).toNat)))) Wa) := fun Wa hb => by
    have := (hmi.blw hb).look (x := ⟨(fdL (text.take (Lib.indexByte text 58).toNat)).toArray⟩) hxs
    rwa [strV_list] at this
  have HPt : Hid (∀ Wa, Below W.heap.size W Wa → ∃ W', (Instr.mapUpdate 59 (.map (some mp)) (.string ⟨(fdL (text.take (Lib.indexByte text 58).toNat)).toArray⟩) (.int .i64 sl)).run Tryd.prog Wa = .ok () W' ∧ Rb W' b left text ln name val sl sf mp all ∧ RM B W' b mp (n + 1) (upI T (fdL (text.take (Lib.indexByte text 58).toNat)) sl) val vs sf fs all L ∧ Below B W W') := fun Wa hb => by
    obtain ⟨W', r1, r2, r3⟩ := (hmi.blw hb).put (x := ⟨(fdL (text.take (Lib.indexByte text 58).toNat)).toArray⟩) hxs hnn sl (wf_sl hs0 hs1)
    rw [strV_list] at r2
    exact ⟨W', r1, (h.blw hb).grown r3 (fun e => hm.ne_box.1 (by injection e with e; exact e.symm)), (hm.blw hb).mapT r2 r3, (hb.mono hB).grown r3 (Nat.le_trans hB hb.size) (fun q e => by injection e with e; rw [← e]; exact hm.hm)⟩
  have HX : Hid (∀ Wa, Below W.heap.size W Wa → Rb Wa b left text ln name val sl sf mp all) := fun Wa hb => h.blw hb
  have htb : (T (fdL (text.take (Lib.indexByte text 58).toNat)) == sl) = false := beq_eq_false_iff_ne.2 htw
  clear hc hn h hmi hm hxs
  generalize T (fdL (text.take (Lib.indexByte text 58).toNat)) = t0 at *
  generalize upI T (fdL (text.take (Lib.indexByte text 58).toNat)) sl = T' at *
  generalize (⟨(fdL (text.take (Lib.indexByte text 58).toNat)).toArray⟩ : ByteArray) = SM at *
  generalize (text.take (Lib.indexByte text 58).toNat) = nm at *
  generalize (text.drop ((Lib.indexByte text 58).toNat + 1)) = tl at *
  have htl := trF_le tl
  go_enter Tryd.func50, Tryd.ntmps50
  go_wp2_with fail
  refine HC.out.mono ?_
  rintro e w1 ⟨rfl, b1⟩
  have HB1 : Hid (Below W.heap.size W w1) := b1
  clear b1 HC c1
  go_upto_region 4 with (go_at_call 24; refine (HNm.out _).mono ?_; rintro e w2 ⟨rfl, b2⟩; have HB2 : Hid (Below W.heap.size W w2) := HB1.out.trans (b2.mono HB1.out.size); clear b2)
  go_wp2_with fail
  refine (HFo.out _).mono ?_
  rintro e w3 ⟨rfl, b3⟩
  have HB3 : Hid (Below W.heap.size W w3) := HB2.out.trans (b3.mono HB2.out.size)
  clear b3 HB1 HB2 HNm HFo
  go_upto_region 5 with fail
  have y5 := (HX.out _ HB3.out).c5
  have y7 := (HX.out _ HB3.out).c7
  have hlk := HLk.out _ HB3.out
  have hlk2 := HLk.out _ HB3.out.drew
  go_cut [36] from 25 to 37 (fun t wx => t = .bool false ∧ wx = w3.drew)
  case first =>
    go_region_law fail
    all_goals
      go_wp2_with fail
      go_meet
      exact ⟨by simp [htb], rfl⟩
  case rest =>
    obtain ⟨rfl, rfl⟩ := hcut
    have HB4 : Hid (Below W.heap.size W w3.drew) := HB3.out.drew
    clear y5 y7 hlk hlk2 HLk htb htw
    generalize w3.drew = w4 at *
    go_upto_region 7 with fail
    have y5 := (HX.out _ HB4.out).c5
    have y7 := (HX.out _ HB4.out).c7
    obtain ⟨w5, hpt, r1, r2, r3⟩ := HPt.out _ HB4.out.drew
    have HR5 : Hid (Rb w5 b left text ln name val sl sf mp all ∧ RM B w5 b mp (n + 1) T' val vs sf fs all L ∧ Below B W w5) := ⟨r1, r2, r3⟩
    clear r1 r2 r3 HPt
    go_cut [] from 37 to 47 (fun wx => wx = w5)
    case first =>
      go_region_law fail
      all_goals
        go_wp2_with fail
        go_meet
        rfl
    case rest =>
      subst hcut
      clear y5 y7 hpt HX HB3 HB4
      go_upto_region 8 with fail
      obtain ⟨av, cv, rfl⟩ := HR5.out.2.1.v.form
      have HX5 : Hid (∀ Wa, Below wc.heap.size wc Wa → Rb Wa b left text ln name (.slice av vs.length cv) sl sf mp all ∧ OwnT B Wa (.slice av 0 cv) [] ∧ B ≤ Wa.heap.size) := fun Wa hb => ⟨HR5.out.1.blw hb, ownT_cut (HR5.out.2.1.blw hb).v, Nat.le_trans (Nat.le_trans HR5.out.2.1.hb (Nat.le_of_lt HR5.out.1.lt)) hb.size⟩
      have HY : Hid (∀ Wa w1 v', Below wc.heap.size wc Wa → OwnT B w1 v' (trF tl) → Wa.grownBy w1 (Value.slice av 0 cv).ownBlock → Rb w1 b left text ln name (.slice av vs.length cv) sl sf mp all ∧ (Rb ((w1.setCell ⟨b, 3, none⟩ (.string ⟨nm.toArray⟩)).setCell ⟨b, 4, none⟩ v') b left text ln nm v' sl sf mp all ∧ RM B ((w1.setCell ⟨b, 3, none⟩ (.string ⟨nm.toArray⟩)).setCell ⟨b, 4, none⟩ v') b mp (n + 1) T' v' (trF tl) sf fs all L ∧ Below B W ((w1.setCell ⟨b, 3, none⟩ (.string ⟨nm.toArray⟩)).setCell ⟨b, 4, none⟩ v'))) := fun Wa w1 v' hb ho hg => by
        have eo : (Value.slice av 0 cv).ownBlock = (Value.slice av vs.length cv).ownBlock := by cases av <;> rfl
        rw [eo] at hg
        obtain ⟨q0, q1, q2, q3⟩ := rd_val HR5.out.1 HR5.out.2.1 hb ho hg nm
        exact ⟨q0, q1, q2, HR5.out.2.2.trans q3⟩
      have x4 := HR5.out.1.c4
      have hlv : ([] : List UInt8).length + (trF tl).length ≤ 140737488355328 := by simp; omega
      have hcv : (0 : Int) ≤ cv := by omega
      go_cut [] from 47 to 62 (fun wx => ∃ val', Rb wx b left text ln nm val' sl sf mp all ∧ RM B wx b mp (n + 1) T' val' (trF tl) sf fs all L ∧ Below B W wx)
      case first =>
        go_region_law (first
          | (refine step_append_str rfl (.tmp 54) (.tmp 56) rfl B (.slice av 0 cv) [] (by simp [Act.eval, Act.put]) (HX5.out _ G8.out).2.1 (trF tl) (by simp [Act.eval, Act.put]) hlv (HX5.out _ G8.out).2.2 ?_; intro v7 w7 own7 gr7; have own9 : OwnT B w7 v7 (trF tl) := own7; obtain ⟨a7, c7, rfl⟩ := own9.form; obtain ⟨q0, q1, q2, q3⟩ := HY.out _ w7 _ G8.out own9 gr7; have HQ : Hid (Rb ((w7.setCell ⟨b, 3, none⟩ (.string ⟨nm.toArray⟩)).setCell ⟨b, 4, none⟩ (.slice a7 (trF tl).length c7)) b left text ln nm (.slice a7 (trF tl).length c7) sl sf mp all ∧ RM B ((w7.setCell ⟨b, 3, none⟩ (.string ⟨nm.toArray⟩)).setCell ⟨b, 4, none⟩ (.slice a7 (trF tl).length c7)) b mp (n + 1) T' (.slice a7 (trF tl).length c7) (trF tl) sf fs all L ∧ Below B W ((w7.setCell ⟨b, 3, none⟩ (.string ⟨nm.toArray⟩)).setCell ⟨b, 4, none⟩ (.slice a7 (trF tl).length c7))) := ⟨q1, q2, q3⟩; have s3 := q0.c3; have s3f := q0.fz 3; have s4 := q0.c4; have s4f := q0.fz 4; clear own7 own9 gr7 q0 q1 q2 q3)
          | (go_wp2_with (go_at_call 40; refine (HTr.out _).mono ?_; rintro e w8 ⟨rfl, b8⟩; have G8 : Hid (Below wc.heap.size wc w8) := (Below.refl wc.heap.size wc).drew.trans b8; have t4 := (HX5.out _ G8.out).1.c4; have t4f := (HX5.out _ G8.out).1.fz 4; clear b8)))
        all_goals
          go_wp2_with fail
          go_meet
          exact ⟨_, HQ.out⟩
      case rest =>
        obtain ⟨v7, q1, q2, q3⟩ := hcut
        have HQ : Hid (Rb wc b left text ln nm v7 sl sf mp all ∧ RM B wc b mp (n + 1) T' v7 (trF tl) sf fs all L ∧ Below B W wc) := ⟨q1, q2, q3⟩
        clear q1 q2 q3 HX5 HY HR5 x4 hlv
        go_wp2
        go_ret
        exact ⟨rfl, HQ.out.2.2, _, HQ.out.1, HQ.out.2.1⟩
end

end Go.Proofs.YtbeaoekbppdlmaaDoor
set_option linter.unusedSimpArgs false
set_option linter.unusedVariables false
namespace Go.Proofs.YtbeaoekbppdlmaaDoor
open Go Go.RowKit

/-- the stanza joins the others -/
theorem RM.allT {B : Nat} {W w1 : World} {b mp n : Nat} {T : List UInt8 → Int} {val v' : Value} {vs : List UInt8} {sf : Value} {fs : List Fld} {all : Value} {L : List SG} {sl : Int} (hm : RM B W b mp n T val vs sf fs all L)
    (own : w1.ownsRow B 35 2 v' (L.length + 1) (sgC L ++ [.int .i64 sl, sf])) (hg : W.grownBy w1 all.ownBlock) : RM B w1 b mp n T val vs (.slice none 0 0) [] v' (L ++ [(sl, sf, fs)]) := by
  have key : ∀ {v : Value} {m : Nat} {xs : List Value} {Ty : TypeId} {sz : Nat}, W.ownsRow B Ty sz v m xs → Ty ≠ 35 → w1.ownsRow B Ty sz v m xs := fun hh hne => own_kept hh fun j e => hg.block j (World.ownsRow.lt hh j e).2 (fun q => hne (ty_apart21 (tyV_row hh e) (tyV_row hm.t.row q.symm)))
  refine ⟨hm.mi.kept (hg.block _ hm.mi.lt fun q => not_map hm.mi (tyV_row hm.t.row q.symm)), key hm.v (by decide), OwnG.nil _ _, ⟨?_, fun x hx => ?_, ?_⟩, fun x hx g e e2 => (by cases e2), ?_, hm.hb, hm.hm⟩
  · rw [sgC_snoc, List.length_append]; exact own
  · rcases List.mem_append.1 hx with hx | hx
    · exact key (hm.t.own x hx) (by decide)
    · obtain rfl := List.mem_singleton.1 hx
      exact key hm.f (by decide)
  · refine List.pairwise_append.2 ⟨hm.t.ap, List.pairwise_singleton _ _, fun x hx y hy => ?_⟩
    obtain rfl := List.mem_singleton.1 hy
    exact hm.ap x hx
  · obtain ⟨cs, f, e⟩ := hm.rd
    exact ⟨cs, f, (hg.block b (Array.getElem?_eq_some_iff.1 e).1 (fun q => hm.ne_box.2.2.2.1 q.symm)).trans e⟩
theorem rd_all {B : Nat} {W Wa w1 : World} {b mp n : Nat} {T : List UInt8 → Int} {left text : List UInt8} {ln : Int} {name : List UInt8} {val v' : Value} {vs : List UInt8} {sl : Int} {sf : Value} {fs : List Fld} {all : Value} {L : List SG}
    (h : Rb W b left text ln name val sl sf mp all) (hm : RM B W b mp n T val vs sf fs all L) (ha : Below W.heap.size W Wa) (own : w1.ownsRow B 35 2 v' (L.length + 1) (sgC L ++ [.int .i64 sl, sf])) (ap : Ap Wa all w1 v') :
    (∃ a' c', v' = .slice a' (L.length + 1) c') ∧ Rb w1 b left text ln name val sl sf mp all ∧ (Rb (w1.setCell ⟨b, 8, none⟩ v') b left text ln name val sl sf mp v' ∧ RM B (w1.setCell ⟨b, 8, none⟩ v') b mp n T val vs (.slice none 0 0) [] v' (L ++ [(sl, sf, fs)]) ∧ Below B W (w1.setCell ⟨b, 8, none⟩ v')) := by
  have hB : B ≤ W.heap.size := Nat.le_trans hm.hb (Nat.le_of_lt h.lt)
  have h1 : Rb w1 b left text ln name val sl sf mp all := (h.blw ha).grown ap.grown (fun e => (hm.blw ha).ne_box.2.2.2.1 e.symm)
  have m1 := (hm.blw ha).allT own ap.grown
  have b1 : Below B W w1 := (ha.mono hB).grown ap.grown (Nat.le_trans hB ha.size) (fun q e => (World.ownsRow.lt hm.t.row q e).1)
  refine ⟨?_, h1, h1.s8 v', m1.box 8 v', b1.setCell hm.hb _⟩
  rcases own.2 with ⟨e, hn⟩ | ⟨g, cap, cur, e, _⟩
  · omega
  · exact ⟨_, _, e⟩

set_option maxHeartbeats 3200000 in
set_option maxRecDepth 100000 in
theorem endStanza21 (B : Nat) (W : World) (b mp n : Nat) (T : List UInt8 → Int) (left text : List UInt8) (ln : Int) (name : List UInt8) (val : Value) (vs : List UInt8) (sl : Int) (sf : Value) (fs : List Fld) (all : Value) (L : List SG)
    (h : Rb W b left text ln name val sl sf mp all) (hm : RM B W b mp n T val vs sf fs all L) (hf : (L.length + 1) * 32 ≤ 140737488355328) :
    Calls Tryd.prog 53 #[.pointer (some ⟨b, 0, none⟩)] W fun e w' => e = .returned (.tuple #[]) ∧ Below B W w' ∧ ∃ all', Rb w' b left text ln name val 0 (.slice none 0 0) mp all' ∧ RM B w' b mp n T val vs (.slice none 0 0) [] all' (L ++ [(sl, sf, fs)]) := by
  obtain ⟨i0, hi, hz0, hz1, hz2⟩ := info_parts infoZt
  have HIn : Hid (Tryd.prog.info? 35 = some i0 ∧ i0.zero = some (.agg #[.int .i64 0, .slice none 0 0]) ∧ i0.size = 2 ∧ i0.bytes = 32) := ⟨hi, hz0, hz1, hz2⟩
  clear hi hz0 hz1 hz2
  obtain ⟨af, cf, rfl⟩ := own_form21 hm.f
  obtain ⟨at', ct, rfl⟩ : ∃ a c, all = .slice a L.length c := by
    rcases hm.t.row.2 with ⟨e, hn⟩ | ⟨g, cap, cur, e, _⟩
    · exact ⟨none, 0, by rw [e, hn]⟩
    · exact ⟨_, _, e⟩
  have HX : Hid (∀ Wa, Below W.heap.size W Wa → Rb Wa b left text ln name val sl (.slice af fs.length cf) mp (.slice at' L.length ct)) := fun Wa hb => h.blw hb
  have HBx : Hid (∀ Wa, Below W.heap.size W Wa → Below W.heap.size W (Wa.alloc (.cells #[.int .i64 sl, .slice af fs.length cf] 35))) := fun Wa hb => hb.alloc hb.size _
  have HRow : Hid ((W.alloc (.cells #[.int .i64 sl, .slice af fs.length cf] 35)).drew.ownsRow B 35 2 (.slice at' L.length ct) L.length (sgC L)) := World.ownsRow.alloc hm.t.row _
  have HNw : Hid (∀ j u, [Value.int .i64 sl, Value.slice af fs.length cf][j]? = some u → (W.alloc (.cells #[.int .i64 sl, .slice af fs.length cf] 35)).drew.cell? ((⟨W.heap.size, 0, none⟩ : Addr).add j) = some u) := two_newA _ _ _ _
  have HBs : Hid (B ≤ (W.alloc (.cells #[.int .i64 sl, .slice af fs.length cf] 35)).drew.heap.size) := by
    have h1 := h.lt; have h2 := hm.hb
    show B ≤ (W.alloc _).heap.size
    simp; omega
  have HY : Hid (∀ w1 v', w1.ownsRow B 35 2 v' (L.length + 1) (sgC L ++ [.int .i64 sl, .slice af fs.length cf]) → Ap (W.alloc (.cells #[.int .i64 sl, .slice af fs.length cf] 35)).drew (.slice at' L.length ct) w1 v' → (∃ a' c', v' = .slice a' (L.length + 1) c') ∧ Rb w1 b left text ln name val sl (.slice af fs.length cf) mp (.slice at' L.length ct) ∧ (Rb (w1.setCell ⟨b, 8, none⟩ v') b left text ln name val sl (.slice af fs.length cf) mp v' ∧ RM B (w1.setCell ⟨b, 8, none⟩ v') b mp n T val vs (.slice none 0 0) [] v' (L ++ [(sl, .slice af fs.length cf, fs)]) ∧ Below B W (w1.setCell ⟨b, 8, none⟩ v'))) := fun w1 v' ho ha => rd_all h hm ((Below.alloc (Below.refl _ _) (Nat.le_refl _) _).drew) ho ha
  have c8 := h.c8
  have c5 := h.c5
  have c6 := h.c6
  have f8 := h.fz 8
  have e8 := (HX.out _ (HBx.out _ (Below.refl _ _))).c8
  have e8f := (HX.out _ (HBx.out _ (Below.refl _ _))).fz 8
  have hlm : L.length + 1 ≤ maxLen := by unfold maxLen; omega
  have HBB : Hid (B ≤ b) := hm.hb
  clear h hm
  go_enter Tryd.func53, Tryd.ntmps53
  go_wp2_with fail
  go_cut [] from 2 to 15 (fun wx => ∃ v', Rb wx b left text ln name val sl (.slice af fs.length cf) mp v' ∧ RM B wx b mp n T val vs (.slice none 0 0) [] v' (L ++ [(sl, .slice af fs.length cf, fs)]) ∧ Below B W wx)
  case first =>
    go_region_law (refine step_append_apk rfl (.tmp 6) (.tmp 11) 22 rfl B 35 i0 (.agg #[.int .i64 0, .slice none 0 0]) 2 32 Tryd.underlying22 HIn.out.1 HIn.out.2.1 HIn.out.2.2.1 HIn.out.2.2.2 rfl (by decide) (.slice at' L.length ct) L.length (sgC L) (by simp [Act.eval, Act.put]) HRow.out ⟨W.heap.size, 0, none⟩ 1 1 [.int .i64 sl, .slice af fs.length cf] (by simp [Act.eval, Act.put]) rfl HNw.out (by simp [Value.oneCell']) hlm hf HBs.out ?_; intro v7 w7 own7 ap7; obtain ⟨⟨a7, c7, rfl⟩, q0, q1, q2, q3⟩ := HY.out w7 v7 own7 ap7; have HQ : Hid (Rb (w7.setCell ⟨b, 8, none⟩ (.slice a7 (L.length + 1) c7)) b left text ln name val sl (.slice af fs.length cf) mp (.slice a7 (L.length + 1) c7) ∧ RM B (w7.setCell ⟨b, 8, none⟩ (.slice a7 (L.length + 1) c7)) b mp n T val vs (.slice none 0 0) [] (.slice a7 (L.length + 1) c7) (L ++ [(sl, .slice af fs.length cf, fs)]) ∧ Below B W (w7.setCell ⟨b, 8, none⟩ (.slice a7 (L.length + 1) c7))) := ⟨q1, q2, q3⟩; have s8 := q0.c8; have s8f := q0.fz 8; clear own7 ap7 q0 q1 q2 q3)
    all_goals
      go_wp2_with fail
      go_meet
      exact ⟨_, HQ.out⟩
  case rest =>
    obtain ⟨v7, q1, q2, q3⟩ := hcut
    have y5 := q1.c5
    have y6 := q1.c6
    have y5f := q1.fz 5
    have y6f := q1.fz 6
    have HE1 : Hid (Rb ((wc.setCell ⟨b, 5, none⟩ (.int .i64 0)).setCell ⟨b, 6, none⟩ (.slice none 0 0)) b left text ln name val 0 (.slice none 0 0) mp v7) := (q1.s5 0).s6 _
    have HE2 : Hid (RM B ((wc.setCell ⟨b, 5, none⟩ (.int .i64 0)).setCell ⟨b, 6, none⟩ (.slice none 0 0)) b mp n T val vs (.slice none 0 0) [] v7 (L ++ [(sl, .slice af fs.length cf, fs)])) := (q2.box 5 _).box 6 _
    have HE3 : Hid (Below B W ((wc.setCell ⟨b, 5, none⟩ (.int .i64 0)).setCell ⟨b, 6, none⟩ (.slice none 0 0))) := (q3.setCell HBB.out _).setCell HBB.out _
    clear q1 q2 q3 HX HBx HRow HNw HBs HY c8 c5 c6 f8 e8 e8f hlm
    go_wp2
    all_goals
      go_end0
      exact ⟨rfl, HE3.out, _, HE1.out, HE2.out⟩

end Go.Proofs.YtbeaoekbppdlmaaDoor
