/-
  control.Write, walked.
  KEEP: below len form out each rd mono nil own row set on app start grown at new one more take none some kept cell refl trans size map made look put blw
-/
import Derived.Test.YtbeaoekbppdlmaaDoorKCvW
import Derived.Test.YtbeaoekbppdlmaaDoorJCvF
import Derived.Test.YtbeaoekbppdlmaaDoorShelfB
set_option linter.unusedSimpArgs false
set_option linter.unusedVariables false
namespace Go.Proofs.YtbeaoekbppdlmaaDoor
open Go Go.RowKit

theorem bd_new (w : World) : IsBd w.heap.size w.heap.size (bL []) (w.alloc (.cells #[.pointer none, .slice none 0 0] 53)) :=
  .inl ⟨Nat.le_refl _, _, World.alloc_heap_new w _, ⟨rfl, .inl ⟨rfl, rfl⟩⟩, by simp [Value.ownBlock]⟩
theorem Bz.bdk {W W' : World} {D b : Nat} {ln : Int} {v : Value} (h : Bz W D ln v) (hk : BdK b W W') (hne : D ≠ b) : Bz W' D ln v :=
  hk D _ h (fun e => hne (by injection e)) (fun c fz e => by injection e with _ e2; exact absurd e2 (by decide))
theorem wrR_drop {k : Nat} {l : List Stz} (h : k < l.length) : wrR k (l.drop k) = (if k = 0 then [] else [10]) ++ (stT (l.getD k (0, [])).2 ++ wrR (k + 1) (l.drop (k + 1))) := by
  rw [stz_drop h, wrR_cons]
theorem formed_vals {l : List Stz} (h : fmdL l = true) : ∀ s ∈ l, ∀ f ∈ s.2, valF f.2 = true := by
  intro s hs f hf
  unfold fmdL at h
  have h1 := List.all_eq_true.1 h s hs
  unfold stzOk at h1
  rw [Bool.and_eq_true] at h1
  have key : ∀ (r q : Nat), q + r = s.2.length → fldsOk s.2 q r = true → ∀ j, q ≤ j → j < s.2.length → valF (s.2.getD j ([], [])).2 = true := by
    intro r
    induction r with
    | zero => intro q hq _ j h1 h2; omega
    | succ r ih =>
      intro q hq hh j h1 h2
      rw [fldsOk, Bool.and_eq_true] at hh
      by_cases e : j = q
      · subst e
        have := hh.1
        unfold fldOk at this
        simp at this
        exact this.2
      · exact ih (q + 1) (by omega) hh.2 j (by omega) h2
  obtain ⟨j, hj, rfl⟩ := List.getElem_of_mem hf
  have := key s.2.length 0 (by omega) h1.2 j (by omega) hj
  rwa [show s.2.getD j ([], []) = s.2[j] by simp [List.getD_eq_getElem?_getD, hj]] at this

set_option maxHeartbeats 6400000 in
set_option maxRecDepth 100000 in
theorem write21 (v : Value) (l : List Stz) (w : World) (hr : RdSt w v l) (hsz : ∀ s ∈ l, ∀ f ∈ s.2, f.1.length ≤ 1099511627776 ∧ f.2.length < 4294967281) (htf : totF l ≤ 1099511627776) (htot : (wrtF l).length ≤ 1099511627776) :
    Calls Tryd.prog 8 #[v] w fun e w' => e = .returned (wrAns l) ∧ Below w.heap.size w w' := by
  have HFm : Hid (Calls Tryd.prog 9 #[v] w fun e w' => e = .returned (.bool (fmdL l)) ∧ Below w.heap.size w w') := formed21 v l w hr hsz htf
  have hlen := hr.len
  have HR : Hid (RdSt w v l) := hr
  have HSz : Hid (∀ s ∈ l, ∀ f ∈ s.2, f.1.length ≤ 1099511627776 ∧ f.2.length < 4294967281) := hsz
  have HTo : Hid ((wrR 0 (l.drop 0)).length ≤ 1099511627776) := htot
  obtain ⟨a, c, rfl, hc, hm, -⟩ := hr.form
  clear hr hsz htot htf
  cases hfm : fmdL l
  case false =>
    have HA : Hid (wrAns l = .tuple #[.string ⟨#[]⟩, .int .i64 1]) := by show _ = _; unfold wrAns; rw [hfm]; rfl
    rw [hfm] at HFm
    clear hfm
    go_enter Tryd.func8, Tryd.ntmps8
    go_wp2_with fail
    refine HFm.out.mono ?_
    rintro e w1 ⟨rfl, b1⟩
    have HB : Hid (Below w.heap.size w w1) := b1
    go_wp2
    go_returns
    refine ⟨?_, HB.out⟩
    rw [HA.out]; rfl
  case true =>
    have HA : Hid (wrAns l = .tuple #[.string ⟨(wrR 0 (l.drop 0)).toArray⟩, .int .i64 0]) := by show _ = _; unfold wrAns; rw [hfm]; rfl
    have HVl : Hid (∀ s ∈ l, ∀ f ∈ s.2, valF f.2 = true) := formed_vals hfm
    rw [hfm] at HFm
    clear hfm
    go_enter Tryd.func8, Tryd.ntmps8
    go_wp2_with fail
    refine HFm.out.mono ?_
    rintro e w1 ⟨rfl, b1⟩
    have HB1 : Hid (Below w.heap.size w w1) := b1
    clear b1 HFm
    have HW0 : Hid (Wst w1.heap.size w1.heap.size (w1.alloc (.cells #[.pointer none, .slice none 0 0] 53)) (w1.alloc (.cells #[.pointer none, .slice none 0 0] 53)) []) := Wst.refl (bd_new w1)
    have HBa : Hid (Below w1.heap.size w1 (w1.alloc (.cells #[.pointer none, .slice none 0 0] 53))) := Below.alloc (Below.refl _ _) (Nat.le_refl _) _
    go_wp2_with fail
    have HWs : Hid ((w1.alloc (.cells #[.pointer none, .slice none 0 0] 53)).heap.size = w1.heap.size + 1) := by show _ = _; simp
    generalize w1.alloc (.cells #[.pointer none, .slice none 0 0] 53) = wb at *
    obtain ⟨b, hb⟩ : ∃ b, b = w1.heap.size := ⟨_, rfl⟩
    rw [← hb] at HW0 HBa HWs ⊢
    have HR1 : Hid (RdSt w1 (.slice a l.length c) l) := HR.out.below HB1.out
    have HW1s : Hid (w1.heap.size ≤ b) := by show _ ≤ _; rw [hb]; exact Nat.le_refl _
    have HRb : Hid (∀ w' X, Wst b b wb w' X → Below b w1 w') := fun w' X hw => HBa.out.trans hw.bel
    have HBb : Hid (∀ w' X, Wst b b wb w' X → Below w.heap.size w w') := fun w' X hw => HB1.out.trans ((HBa.out.trans hw.bel).mono (by rw [hb]; exact HB1.out.size))
    have HWb : Hid (w.heap.size ≤ b) := by show _ ≤ _; rw [hb]; exact HB1.out.size
    have HBz : Hid (∀ w' X, Wst b b wb w' X → b + 1 ≤ w'.heap.size) := fun w' X h => by have := h.bel.size; rw [HWs.out] at this; exact this
    clear hb HBa HB1 HR HWs
    obtain ⟨GG, hGG⟩ : ∃ GG, GG = wrR 0 (l.drop 0) := ⟨_, rfl⟩
    rw [← hGG] at HTo HA
    have HI0 : Hid ([] ++ wrR 0 (l.drop 0) = GG) := hGG.symm
    clear hGG
    go_loopg [14] l.length (fun g i wr => ∃ (k : Nat) (X : List UInt8), k + g = l.length ∧ i = .int .i64 k ∧ Hid (X ++ wrR k (l.drop k) = GG) ∧ Hid (Wst b b wb wr X))
    case atStart => exact ⟨0, [], by omega, rfl, HI0.out, HW0.out⟩
    case round =>
      obtain ⟨k, X, hk, rfl, HK, HX1⟩ := hrel
      have HG : Hid (k + gk = l.length) := hk
      clear HI0 HW0
      by_cases hlt : k < l.length
      · obtain ⟨a', c', e', -, -, hcell⟩ := HR1.out.form
        have e3 : a' = a ∧ c' = c := by injection e' with q1 q2 q3; exact ⟨q1.symm, q3.symm⟩
        obtain ⟨rfl, rfl⟩ := e3
        obtain ⟨rb, off, u, rfl, hrb, hn1, hv1, hru⟩ := hcell k hlt
        have hrb2 : rb < b := Nat.lt_of_lt_of_le hrb HW1s.out
        have hn := ((HRb.out _ _ HX1.out).cell (p := ⟨rb, off + k * 2, none⟩) hrb2).trans hn1
        have hv := ((HRb.out _ _ HX1.out).cell (p := ⟨rb, off + k * 2 + 1, none⟩) hrb2).trans hv1
        clear hn1 hv1
        have hX : X ++ ((if k = 0 then [] else [10]) ++ (stT (l.getD k (0, [])).2 ++ wrR (k + 1) (l.drop (k + 1)))) = GG := by rw [← wrR_drop hlt]; exact HK.out
        have hfz := HSz.out _ (getD_mem' (l := l) (k := k) (d := (0, [])) hlt)
        have hfv := HVl.out _ (getD_mem' (l := l) (k := k) (d := (0, [])) hlt)
        generalize (l.getD k (0, [])).2 = fs at *
        generalize (l.getD k (0, [])).1 = ln at *
        have HX : Hid (X ++ ((if k = 0 then [] else [10]) ++ (stT fs ++ wrR (k + 1) (l.drop (k + 1)))) = GG) := hX
        have HFz : Hid (∀ f ∈ fs, f.1.length ≤ 1099511627776 ∧ f.2.length < 4294967281) := hfz
        have HFv : Hid (∀ f ∈ fs, valF f.2 = true) := hfv
        have hfl := hru.len
        obtain ⟨ua, uc, rfl, huc, hum, -⟩ := hru.form
        have HZ : Hid (Bz (wr.alloc (.cells #[.int .i64 ln, .slice ua fs.length uc] 35)) wr.heap.size ln (.slice ua fs.length uc)) := Bz.mk1 _ _ _ _ rfl
        have hBz : Below wr.heap.size wr (wr.alloc (.cells #[.int .i64 ln, .slice ua fs.length uc] 35)) := Below.alloc (Below.refl _ _) (Nat.le_refl _) _
        have HRu : Hid (RdG w1 (.slice ua fs.length uc) fs) := hru
        have HX2 : Hid (Wst b b wb (wr.alloc (.cells #[.int .i64 ln, .slice ua fs.length uc] 35)) X) := HX1.out.blw (by have := HBz.out _ _ HX1.out; omega) hBz
        have hDb : wr.heap.size ≠ b := by have := HBz.out _ _ HX1.out; omega
        clear e' hcell HK hX hfz hfv hru hk hrb hrb2 hBz
        go_upto_region 7 with fail
        clear hn hv
        have z1 := HZ.out.c1
        generalize wr.heap.size = D at *
        generalize wr.alloc (.cells #[.int .i64 ln, .slice ua fs.length uc] 35) = wo at *
        by_cases h0 : 0 < k
        · have HY : Hid ((X ++ [10]) ++ (stT fs ++ wrR (k + 1) (l.drop (k + 1))) = GG) := by show _ = _; rw [← HX.out, if_neg (show ¬ k = 0 by omega)]; simp
          have hl1 : X.length + 1 ≤ 140737488355328 := by have h1 := HTo.out; rw [← HY.out] at h1; simp at h1; omega
          have HX2b : Hid (∀ w', Wst b b wo w' (X ++ [10]) → Wst b b wb w' (X ++ [10])) := fun w' h => h.base HX2.out.bel HX2.out.k
          have HByk : Hid (Calls Tryd.prog 21 #[.pointer (some ⟨b, 0, none⟩), .int .u8 10] wo fun e w' => e = .returned .nilIface ∧ Wst b b wo w' (X ++ [10]) ∧ BdK b wo w') := ((Wst.refl HX2.out.u).byte 10 10 rfl hl1 (by have := HBz.out _ _ HX2.out; omega)).mono fun e w' h => ⟨h.1, h.2, h.2.k⟩
          clear HX
          go_upto_region 9 with (go_at_call 21; refine HByk.out.mono ?_; rintro e w5 ⟨rfl, q5⟩; have HX3 : Hid (Wst b b wb w5 (X ++ [10])) := HX2b.out w5 q5.1; have h5k : BdK b wo w5 := q5.2; clear q5)
          have z2 := (HZ.out.bdk h5k hDb).c1
          clear h5k
          clear z1
          have hlX : (X ++ [10]).length ≤ 140737488355328 := by have h1 := HTo.out; rw [← HY.out] at h1; simp at h1 ⊢; omega
          have HI1 : Hid ((X ++ [10]) ++ (stT (fs.drop 0) ++ wrR (k + 1) (l.drop (k + 1))) = GG) := HY.out
          have HWi : Hid (Wst b b wb w5 (X ++ [10])) := HX3.out
          clear HY HX2
          go_wp2_with fail
          clear z2
          go_loopg [25] fs.length (fun g j wq => ∃ (q : Nat) (Y : List UInt8), q + g = fs.length ∧ j = .int .i64 q ∧ Hid (Y ++ (stT (fs.drop q) ++ wrR (k + 1) (l.drop (k + 1))) = GG) ∧ Hid (Wst b b wb wq Y))
          case atStart => exact ⟨0, X ++ [10], by omega, rfl, HI1.out, HWi.out⟩
          case round =>
            obtain ⟨q, Y, hq, rfl, HQ, HYq⟩ := hrel
            have HGq : Hid (q + gk = fs.length) := hq
            clear HI1 HWi
            by_cases hlq : q < fs.length
            · obtain ⟨a2, c2, e', -, -, hcell⟩ := (HRu.out.belowB (HRb.out _ _ HYq.out) HW1s.out).form
              have e3 : a2 = ua ∧ c2 = uc := by injection e' with q1 q2 q3; exact ⟨q1.symm, q3.symm⟩
              obtain ⟨rfl, rfl⟩ := e3
              obtain ⟨fb, fo, rfl, hfb, hn, hv2⟩ := hcell q hlq
              have hX : Y ++ (fldT (fs.getD q ([], [])) ++ (stT (fs.drop (q + 1)) ++ wrR (k + 1) (l.drop (k + 1)))) = GG := by rw [← HQ.out, stT_drop hlq]; simp
              have hfsz := HFz.out _ (getD_mem' (l := fs) (k := q) (d := ([], [])) hlq)
              have hfvl := HFv.out _ (getD_mem' (l := fs) (k := q) (d := ([], [])) hlq)
              generalize fs.getD q ([], []) = f at *
              obtain ⟨f1, f2⟩ := f
              unfold strV at hn hv2
              have hn : wr.cell? ⟨fb, fo + q * 2, none⟩ = some (.string ⟨f1.toArray⟩) := hn
              have hv2 : wr.cell? ⟨fb, fo + q * 2 + 1, none⟩ = some (.string ⟨f2.toArray⟩) := hv2
              have hfw : fldW (f1, f2) = fldT (f1, f2) := fldW_eq hfvl
              have HX : Hid ((Y ++ fldT (f1, f2)) ++ (stT (fs.drop (q + 1)) ++ wrR (k + 1) (l.drop (k + 1))) = GG) := by show _ = _; rw [← hX]; simp
              have hfsz2 : f2.length < 4294967281 := hfsz.2
              have HWr : Hid (∀ w', Wst b b wb w' Y → Calls Tryd.prog 22 #[.pointer (some ⟨b, 0, none⟩), .agg #[.string ⟨f1.toArray⟩, .string ⟨f2.toArray⟩]] w' fun e w'' => e = .returned (.tuple #[]) ∧ Wst b b wb w'' (Y ++ fldT (f1, f2))) := fun w' hw => by
                have hl : Y.length + (fldW (f1, f2)).length ≤ 140737488355328 := by
                  rw [hfw]
                  have h1 := HTo.out
                  rw [← HX.out] at h1
                  simp only [List.length_append] at h1 ⊢
                  omega
                refine (wField21 b b Y f1 f2 w' hw.u hl (by have := HBz.out _ _ hw; omega) hfsz2).mono ?_
                rintro e w'' ⟨rfl, h⟩
                rw [hfw] at h
                exact ⟨rfl, h.base hw.bel hw.k⟩
              have HFx : Hid (Fz2 (wr.alloc (.cells #[.string ⟨f1.toArray⟩, .string ⟨f2.toArray⟩] 50)) wr.heap.size f1 f2) := Fz2.mk1 _ _ _
              have HWx : Hid (Wst b b wb (wr.alloc (.cells #[.string ⟨f1.toArray⟩, .string ⟨f2.toArray⟩] 50)) Y) := HYq.out.blw (by have := HBz.out _ _ HYq.out; omega) (Below.alloc (Below.refl _ _) (Nat.le_refl _) _)
              clear e' hcell HQ hX hfsz hfvl hfw hq hfb hfsz2 HYq
              go_wp2_with fail
              refine (HWr.out _ (by first | exact HWx.out | (simpa using HWx.out))).mono ?_
              rintro e w6 ⟨rfl, h6⟩
              have HY6 : Hid (Wst b b wb w6 (Y ++ fldT (f1, f2))) := h6
              clear h6 hn hv2
              go_wp2
              go_roundg (gk - 1)
              case measure => have := HGq.out; omega
              case rel => exact ⟨q + 1, _, by have := HGq.out; omega, by go_num, HX.out, HY6.out⟩
            · have HE : Hid (Y ++ wrR (k + 1) (l.drop (k + 1)) = GG) := by show _ = _; rw [← HQ.out, List.drop_eq_nil_of_le (show fs.length ≤ q by omega)]; rfl
              clear HQ hq
              go_wp2
              go_roundg (l.length - (k + 1))
              case measure => have := HG.out; omega
              case rel => exact ⟨k + 1, Y, by have := HG.out; omega, by go_num, HE.out, HYq.out⟩
        · have HY : Hid (X ++ (stT fs ++ wrR (k + 1) (l.drop (k + 1))) = GG) := by show _ = _; rw [← HX.out, if_pos (show k = 0 by omega)]; simp
          clear HX
          go_upto_region 9 with fail
          have z2 := z1
          clear z1
          have hlX : (X).length ≤ 140737488355328 := by have h1 := HTo.out; rw [← HY.out] at h1; simp at h1 ⊢; omega
          have HI1 : Hid ((X) ++ (stT (fs.drop 0) ++ wrR (k + 1) (l.drop (k + 1))) = GG) := HY.out
          have HWi : Hid (Wst b b wb wo (X)) := HX2.out
          clear HY HX2
          go_wp2_with fail
          clear z2
          go_loopg [25] fs.length (fun g j wq => ∃ (q : Nat) (Y : List UInt8), q + g = fs.length ∧ j = .int .i64 q ∧ Hid (Y ++ (stT (fs.drop q) ++ wrR (k + 1) (l.drop (k + 1))) = GG) ∧ Hid (Wst b b wb wq Y))
          case atStart => exact ⟨0, X, by omega, rfl, HI1.out, HWi.out⟩
          case round =>
            obtain ⟨q, Y, hq, rfl, HQ, HYq⟩ := hrel
            have HGq : Hid (q + gk = fs.length) := hq
            clear HI1 HWi
            by_cases hlq : q < fs.length
            · obtain ⟨a2, c2, e', -, -, hcell⟩ := (HRu.out.belowB (HRb.out _ _ HYq.out) HW1s.out).form
              have e3 : a2 = ua ∧ c2 = uc := by injection e' with q1 q2 q3; exact ⟨q1.symm, q3.symm⟩
              obtain ⟨rfl, rfl⟩ := e3
              obtain ⟨fb, fo, rfl, hfb, hn, hv2⟩ := hcell q hlq
              have hX : Y ++ (fldT (fs.getD q ([], [])) ++ (stT (fs.drop (q + 1)) ++ wrR (k + 1) (l.drop (k + 1)))) = GG := by rw [← HQ.out, stT_drop hlq]; simp
              have hfsz := HFz.out _ (getD_mem' (l := fs) (k := q) (d := ([], [])) hlq)
              have hfvl := HFv.out _ (getD_mem' (l := fs) (k := q) (d := ([], [])) hlq)
              generalize fs.getD q ([], []) = f at *
              obtain ⟨f1, f2⟩ := f
              unfold strV at hn hv2
              have hn : wr.cell? ⟨fb, fo + q * 2, none⟩ = some (.string ⟨f1.toArray⟩) := hn
              have hv2 : wr.cell? ⟨fb, fo + q * 2 + 1, none⟩ = some (.string ⟨f2.toArray⟩) := hv2
              have hfw : fldW (f1, f2) = fldT (f1, f2) := fldW_eq hfvl
              have HX : Hid ((Y ++ fldT (f1, f2)) ++ (stT (fs.drop (q + 1)) ++ wrR (k + 1) (l.drop (k + 1))) = GG) := by show _ = _; rw [← hX]; simp
              have hfsz2 : f2.length < 4294967281 := hfsz.2
              have HWr : Hid (∀ w', Wst b b wb w' Y → Calls Tryd.prog 22 #[.pointer (some ⟨b, 0, none⟩), .agg #[.string ⟨f1.toArray⟩, .string ⟨f2.toArray⟩]] w' fun e w'' => e = .returned (.tuple #[]) ∧ Wst b b wb w'' (Y ++ fldT (f1, f2))) := fun w' hw => by
                have hl : Y.length + (fldW (f1, f2)).length ≤ 140737488355328 := by
                  rw [hfw]
                  have h1 := HTo.out
                  rw [← HX.out] at h1
                  simp only [List.length_append] at h1 ⊢
                  omega
                refine (wField21 b b Y f1 f2 w' hw.u hl (by have := HBz.out _ _ hw; omega) hfsz2).mono ?_
                rintro e w'' ⟨rfl, h⟩
                rw [hfw] at h
                exact ⟨rfl, h.base hw.bel hw.k⟩
              have HFx : Hid (Fz2 (wr.alloc (.cells #[.string ⟨f1.toArray⟩, .string ⟨f2.toArray⟩] 50)) wr.heap.size f1 f2) := Fz2.mk1 _ _ _
              have HWx : Hid (Wst b b wb (wr.alloc (.cells #[.string ⟨f1.toArray⟩, .string ⟨f2.toArray⟩] 50)) Y) := HYq.out.blw (by have := HBz.out _ _ HYq.out; omega) (Below.alloc (Below.refl _ _) (Nat.le_refl _) _)
              clear e' hcell HQ hX hfsz hfvl hfw hq hfb hfsz2 HYq
              go_wp2_with fail
              refine (HWr.out _ (by first | exact HWx.out | (simpa using HWx.out))).mono ?_
              rintro e w6 ⟨rfl, h6⟩
              have HY6 : Hid (Wst b b wb w6 (Y ++ fldT (f1, f2))) := h6
              clear h6 hn hv2
              go_wp2
              go_roundg (gk - 1)
              case measure => have := HGq.out; omega
              case rel => exact ⟨q + 1, _, by have := HGq.out; omega, by go_num, HX.out, HY6.out⟩
            · have HE : Hid (Y ++ wrR (k + 1) (l.drop (k + 1)) = GG) := by show _ = _; rw [← HQ.out, List.drop_eq_nil_of_le (show fs.length ≤ q by omega)]; rfl
              clear HQ hq
              go_wp2
              go_roundg (l.length - (k + 1))
              case measure => have := HG.out; omega
              case rel => exact ⟨k + 1, Y, by have := HG.out; omega, by go_num, HE.out, HYq.out⟩
      · have HE : Hid (X = GG) := by show _ = _; rw [← HK.out, List.drop_eq_nil_of_le (by omega)]; simp [wrR]
        have hS := Tryd.Builder_String_any_f b b X wr HX1.out.u (by have := HBz.out _ _ HX1.out; omega)
        rw [HE.out] at hS
        have HS : Hid (Calls Tryd.prog 23 #[.pointer (some ⟨b, 0, none⟩)] wr fun e w' => e = .returned (.string ⟨GG.toArray⟩) ∧ Below b wr w') := hS.mono fun e w' h => ⟨h.1, h.2.2⟩
        have HBe : Hid (Below w.heap.size w wr ∧ b ≤ wr.heap.size) := ⟨HBb.out _ _ HX1.out, by have := HBz.out _ _ HX1.out; omega⟩
        have HNb : Hid (∀ w', Below b wr w' → Below w.heap.size w w') := fun w' hb' => HBe.out.1.trans (hb'.mono HWb.out)
        clear HK hk hS
        go_wp2_with fail
        refine HS.out.mono ?_
        rintro e w8 ⟨rfl, b8⟩
        have HB8 : Hid (Below w.heap.size w w8) := HNb.out _ b8
        clear b8
        go_wp2
        go_returns
        refine ⟨?_, HB8.out⟩
        rw [HA.out]; rfl

end Go.Proofs.YtbeaoekbppdlmaaDoor
