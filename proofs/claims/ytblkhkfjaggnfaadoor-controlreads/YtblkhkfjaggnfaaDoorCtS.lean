/-
  The document's Read of stanzas, walked (walks/gencts.py writes it).
  KEEP: Ap put_app step_append_apk len below nil form rd mono on app start at new trans refl kept own row out grown rdz set one more lt size cell some none letL tail next step go add put del get look no yes e c f b k n m box take each block shape os tape output setCell heap alloc addr last blk drew keep done
-/
import Derived.Test.YtblkhkfjaggnfaaDoorCtR
set_option linter.unusedSimpArgs false
set_option linter.unusedVariables false
namespace Go.Proofs.YtblkhkfjaggnfaaDoor
open Go Go.RowKit

theorem two_newA (W : World) (x y : Value) (T : TypeId) : ∀ j u, [x, y][j]? = some u → (W.alloc (.cells #[x, y] T)).cell? ((⟨W.heap.size, 0, none⟩ : Addr).add j) = some u := two_new21 W x y T
theorem lns_drop {ps : List (List UInt8)} {k : Nat} (h : k < ps.length) : ps.drop k = ps.getD k [] :: ps.drop (k + 1) := pc_drop h
set_option maxHeartbeats 6400000 in
set_option maxRecDepth 100000 in
theorem rRead21_any (s : ByteArray) (w : World) (hs : s.size ≤ 274877906944) :
    Calls Tryd.prog 9 #[.string s] w fun e w' => RdAns w.heap.size w w' e (rdF21 s.data.toList) := by
  have HLn : Hid (Calls Tryd.prog 17 #[.string s] w fun e w' => ∃ v, e = .returned v ∧ OwnL w.heap.size w' v (lnsF s.data.toList []) ∧ Below w.heap.size w w') := rLines_any s w (by omega)
  obtain ⟨R, hR⟩ : ∃ R, R = rdF21 s.data.toList := ⟨_, rfl⟩
  rw [← hR]
  have HR : Hid (R = rdS ((lnsF s.data.toList []).drop 0) 1 [] (0, [])) := hR
  have htot := tot_lns s.data.toList []
  have hln := len_lns s.data.toList []
  have hss := size20 s
  have HT : Hid (totL ((lnsF s.data.toList []).drop 0) ≤ 274877906945) := by show _ ≤ _; rw [List.drop_zero]; simp at htot; omega
  have hll : (lnsF s.data.toList []).length ≤ 274877906945 := by omega
  generalize lnsF s.data.toList [] = ps at *
  clear hR htot hln hss
  obtain ⟨i0, hi, hz0, hz1, hz2⟩ := info_parts infoZt
  have HIn : Hid (Tryd.prog.info? 35 = some i0 ∧ i0.zero = some (.agg #[.int .i64 0, .slice none 0 0]) ∧ i0.size = 2 ∧ i0.bytes = 32) := ⟨hi, hz0, hz1, hz2⟩
  clear hi hz0 hz1 hz2
  go_enter Tryd.func9, Tryd.ntmps9
  go_wp2_with fail
  refine HLn.out.mono ?_
  rintro e w1 ⟨v1, rfl, own1, bel1⟩
  have HO : Hid (OwnL w.heap.size w1 v1 ps) := own1
  have HB1 : Hid (Below w.heap.size w w1) := bel1
  obtain ⟨a, c, rfl, hc, hm, _⟩ := own1.form
  clear own1 bel1 HLn
  go_wp2_with fail
  have hZ : Bz (w1.alloc (.cells #[.int .i64 0, .slice none 0 0] 35)) w1.heap.size 0 (.slice none 0 0) := Bz.mk1 _ _ _ _ rfl
  have HBa : Hid (Below w1.heap.size w1 (w1.alloc (.cells #[.int .i64 0, .slice none 0 0] 35))) := Below.alloc (Below.refl _ _) (Nat.le_refl _) _
  have HS0 : Hid (St21 w1.heap.size (w1.alloc (.cells #[.int .i64 0, .slice none 0 0] 35)) (.slice none 0 0) [] w1.heap.size 0 (.slice none 0 0) []) := ⟨OwnSt.nil _ _, hZ, OwnG.nil _ _, fun x hx => (by cases hx), by simp [Value.ownBlock]⟩
  clear hZ
  generalize w1.alloc (.cells #[.int .i64 0, .slice none 0 0] 35) = wa at *
  go_loopg [5, 8, 9, 10, 11] ps.length (fun g o i x9 x10 x11 wr => ∃ (k U : Nat) (L : List SG) (ln : Int) (a5 : Option Addr) (c5 : Nat) (a7 : Option Addr) (c7 : Nat) (fs : List Fld), k + g = ps.length ∧ i = .int .i64 k ∧ o = .slice a5 L.length c5 ∧ L.length ≤ k ∧ fs.length ≤ k ∧ Hid (St21 w1.heap.size wr (.slice a5 L.length c5) L w1.heap.size ln (.slice a7 fs.length c7) fs) ∧ Hid (U + totL (ps.drop k) ≤ 274877906945 ∧ ∀ f ∈ fs, f.1.length ≤ U ∧ f.2.length ≤ U) ∧ Hid (R = rdS (ps.drop k) ((k : Int) + 1) (sgS L) (ln, fs)) ∧ Hid (Below w1.heap.size w1 wr))
  case atStart => exact ⟨0, 0, [], 0, none, 0, none, 0, [], by omega, rfl, rfl, by simp, by simp, HS0.out, ⟨by have := HT.out; omega, fun f hf => (by cases hf)⟩, HR.out, HBa.out⟩
  case round =>
    obtain ⟨k, U, L, ln, a5, c5, a7, c7, fs, hk, rfl, rfl, hLk, hfk, HS, HU, HK, HB⟩ := hrel
    have HG : Hid (k + gk = ps.length) := hk
    clear HR HS0 HBa HT
    by_cases hlt : k < ps.length
    · skip
      obtain ⟨a', c', e', _, _, hcell⟩ := (HO.out.below HB.out).form
      have e3 : a' = a ∧ c' = c := by injection e' with q1 q2 q3; exact ⟨q1.symm, q3.symm⟩
      obtain ⟨rfl, rfl⟩ := e3
      obtain ⟨g, rfl, hgl, hcl⟩ := hcell k hlt
      have hKd : R = rdS (ps.getD k [] :: ps.drop (k + 1)) ((k : Int) + 1) (sgS L) (ln, fs) := by rw [HK.out, lns_drop hlt]
      have hUd : U + ((ps.getD k []).length + 1 + totL (ps.drop (k + 1))) ≤ 274877906945 := by have := HU.out.1; rw [lns_drop hlt, totL] at this; exact this
      have HUf : Hid (∀ f ∈ fs, f.1.length ≤ U ∧ f.2.length ≤ U) := HU.out.2
      generalize ps.getD k [] = p at *
      have hFa := fun W => rFair21_any ⟨p.toArray⟩ false W (by rw [sizeL]; omega)
      have hTr := fun W => rTrim21_any ⟨p.toArray⟩ W (by rw [sizeL]; omega)
      simp only [strV_list] at hFa hTr
      unfold strV at hcl
      have HFa : Hid (∀ W, Calls Tryd.prog 18 #[.string ⟨p.toArray⟩, .bool false] W fun e w' => e = .returned (.bool (fairF false p)) ∧ w' = W) := hFa
      have HTr : Hid (∀ W, Calls Tryd.prog 19 #[.string ⟨p.toArray⟩] W fun e w' => e = .returned (.string ⟨(trF p).toArray⟩) ∧ w' = W) := hTr
      have hsT : (⟨(trF p).toArray⟩ : ByteArray).size = (trF p).length := sizeL _
      have hw0 : IntKind.i64.wrap ((k : Int) + 1) = (k : Int) + 1 := by rw [IntKind.wrap_i64]; omega
      rw [rdS] at hKd
      have HKd : Hid (R = if fairF false p = false then .error (212, (k : Int) + 1) else if trF p = [] then rdS (ps.drop (k + 1)) ((k : Int) + 1 + 1) (if fs = [] then sgS L else sgS L ++ [(ln, fs)]) (0, []) else if p.head? = some 35 then rdS (ps.drop (k + 1)) ((k : Int) + 1 + 1) (sgS L) (ln, fs) else match stepP (ln, fs) p ((k : Int) + 1) with | .error e => .error (e, (k : Int) + 1) | .ok n => rdS (ps.drop (k + 1)) ((k : Int) + 1 + 1) (sgS L) n) := hKd
      have HUd : Hid (U + (p.length + 1 + totL (ps.drop (k + 1))) ≤ 274877906945) := hUd
      have hk1 : ((k : Int) + 1 + 1) = (((k + 1 : Nat) : Int) + 1) := by omega
      rw [hk1] at HKd
      clear e' hcell HK HU hKd hUd hFa hTr hk hk1
      cases hfa : fairF false p
      · have HE : Hid (R = .error (212, (k : Int) + 1)) := by show _ = _; rw [HKd.out, if_pos hfa]
        rw [hfa] at HFa
        clear HKd hfa
        go_wp2_with fail
        refine (HFa.out _).mono ?_
        rintro e w9 ⟨rfl, h9⟩
        have h9s := h9.symm
        clear h9
        subst h9s
        go_wp2
        go_returns
        rw [HE.out]
        exact ⟨rfl, HB1.out.trans (HB.out.mono HB1.out.size)⟩
      rw [hfa] at HFa HKd
      have HKe : Hid (R = if trF p = [] then rdS (ps.drop (k + 1)) (((k + 1 : Nat) : Int) + 1) (if fs = [] then sgS L else sgS L ++ [(ln, fs)]) (0, []) else if p.head? = some 35 then rdS (ps.drop (k + 1)) (((k + 1 : Nat) : Int) + 1) (sgS L) (ln, fs) else match stepP (ln, fs) p ((k : Int) + 1) with | .error e => .error (e, (k : Int) + 1) | .ok n => rdS (ps.drop (k + 1)) (((k + 1 : Nat) : Int) + 1) (sgS L) n) := by show _ = _; rw [HKd.out, if_neg (by simp)]
      clear HKd hfa
      go_wp2_with fail
      refine (HFa.out _).mono ?_
      rintro e w9 ⟨rfl, h9⟩
      have h9s := h9.symm
      clear h9
      subst h9s
      clear HFa
      go_wp2_with fail
      refine (HTr.out _).mono ?_
      rintro e w9 ⟨rfl, h9⟩
      have h9s := h9.symm
      clear h9
      subst h9s
      clear HTr
      by_cases ht0 : (trF p).length = 0
      · have htn : trF p = [] := List.eq_nil_of_length_eq_zero ht0
        have HKf : Hid (R = rdS (ps.drop (k + 1)) (((k + 1 : Nat) : Int) + 1) (if fs = [] then sgS L else sgS L ++ [(ln, fs)]) (0, [])) := by show _ = _; rw [HKe.out, if_pos htn]
        have hst : ((⟨(trF p).toArray⟩ : ByteArray).size : Int) = 0 := by rw [hsT]; omega
        have hst2 : (((⟨(trF p).toArray⟩ : ByteArray).size : Int) == 0) = true := by rw [hst]; rfl
        clear HKe htn ht0 hsT hst
        generalize (⟨(trF p).toArray⟩ : ByteArray) = TT at *
        have z0 := HS.out.z.c0
        have z1 := HS.out.z.c1
        have zf0 := HS.out.z.fz 0
        have zf1 := HS.out.z.fz 1
        by_cases h0 : fs.length = 0
        · have hn0 : fs = [] := List.eq_nil_of_length_eq_zero h0
          have HKg : Hid (R = rdS (ps.drop (k + 1)) (((k + 1 : Nat) : Int) + 1) (sgS L) (0, [])) := by show _ = _; rw [HKf.out, if_pos hn0]
          have h0i : ¬ (0 : Int) < fs.length := by omega
          have HS2 : Hid (St21 w1.heap.size ((wr.setCell ⟨w1.heap.size, 0, none⟩ (.int .i64 0)).setCell ⟨w1.heap.size, 1, none⟩ (.slice none 0 0)) (.slice a5 L.length c5) L w1.heap.size 0 (.slice none 0 0) []) := St21.box HS.out.t HS.out.z (OwnG.nil _ _) (fun x hx g e e2 => by cases e2) HS.out.nd
          have HB2 : Hid (Below w1.heap.size w1 ((wr.setCell ⟨w1.heap.size, 0, none⟩ (.int .i64 0)).setCell ⟨w1.heap.size, 1, none⟩ (.slice none 0 0))) := (HB.out.setCell (Nat.le_refl _) _).setCell (Nat.le_refl _) _
          clear HKf hn0 h0
          go_wp2
          all_goals
            go_roundg (gk - 1)
            case measure => have := HG.out; omega
            case rel => exact ⟨k + 1, 0, L, 0, a5, c5, none, 0, [], by have := HG.out; omega, by go_num, rfl, by omega, by simp, HS2.out, ⟨by have := HUd.out; omega, fun f hf => (by cases hf)⟩, HKg.out, HB2.out⟩
        · have hn0 : fs ≠ [] := fun e => h0 (by rw [e]; rfl)
          have HKg : Hid (R = rdS (ps.drop (k + 1)) (((k + 1 : Nat) : Int) + 1) (sgS L ++ [(ln, fs)]) (0, [])) := by show _ = _; rw [HKf.out, if_neg hn0]
          have h0i : (0 : Int) < fs.length := by omega
          clear HKf hn0 h0
          have HRow : Hid ((wr.alloc (.cells #[.int .i64 ln, .slice a7 fs.length c7] 35)).ownsRow w1.heap.size 35 2 (.slice a5 L.length c5) L.length (sgC L)) := World.ownsRow.alloc HS.out.t.row _
          have HNw : Hid (∀ j u, [Value.int .i64 ln, Value.slice a7 fs.length c7][j]? = some u → (wr.alloc (.cells #[.int .i64 ln, .slice a7 fs.length c7] 35)).cell? ((⟨wr.heap.size, 0, none⟩ : Addr).add j) = some u) := two_newA _ _ _ _
          have hsb : w1.heap.size ≤ wr.heap.size := HB.out.size
          have HDn : Hid (∀ s8 w8, w8.ownsRow w1.heap.size 35 2 s8 (L.length + 1) (sgC L ++ [.int .i64 ln, .slice a7 fs.length c7]) → Ap (wr.alloc (.cells #[.int .i64 ln, .slice a7 fs.length c7] 35)) (.slice a5 L.length c5) w8 s8 → (OwnSt w1.heap.size w8 s8 (L ++ [(ln, .slice a7 fs.length c7, fs)]) ∧ Bz w8 w1.heap.size ln (.slice a7 fs.length c7) ∧ s8.ownBlock ≠ some w1.heap.size ∧ ∃ a8 c8, s8 = .slice a8 (L.length + 1) c8) ∧ Below w1.heap.size w1 w8) := fun s8 w8 o8 p8 => ⟨St21.done HS.out o8 p8, (HB.out.alloc hsb _).grown p8.grown (by simp; omega) (fun q hq => (World.ownsRow.lt HS.out.t.row q hq).1)⟩
          go_wp2_with (at_builtin; refine wpList_append_apk rfl (.tmp 38) (.tmp 40) 23 rfl w1.heap.size 35 i0 (.agg #[.int .i64 0, .slice none 0 0]) 2 32 Tryd.underlying23 HIn.out.1 HIn.out.2.1 HIn.out.2.2.1 HIn.out.2.2.2 rfl (by decide) (.slice a5 L.length c5) L.length (sgC L) rfl HRow.out ⟨wr.heap.size, 0, none⟩ 1 1 [.int .i64 ln, .slice a7 fs.length c7] rfl rfl HNw.out (by simp [Value.oneCell']) (by unfold maxLen; omega) (by omega) (by simp; omega) ?_; intro v8 w8 own8 ap8; obtain ⟨⟨t8, z8, n8, a8, c8, rfl⟩, b8⟩ := HDn.out v8 w8 own8 ap8; have HT8 : Hid (OwnSt w1.heap.size w8 (.slice a8 (L.length + 1) c8) (L ++ [(ln, .slice a7 fs.length c7, fs)]) ∧ Bz w8 w1.heap.size ln (.slice a7 fs.length c7) ∧ (Value.slice a8 (L.length + 1) c8).ownBlock ≠ some w1.heap.size ∧ Below w1.heap.size w1 w8) := ⟨t8, z8, n8, b8⟩; have y0 := z8.c0; have y1 := z8.c1; have yf0 := z8.fz 0; have yf1 := z8.fz 1; clear own8 ap8 t8 z8 n8 b8)
          all_goals
            have HS2 : Hid (St21 w1.heap.size ((w8.setCell ⟨w1.heap.size, 0, none⟩ (.int .i64 0)).setCell ⟨w1.heap.size, 1, none⟩ (.slice none 0 0)) (.slice a8 (L.length + 1) c8) (L ++ [(ln, .slice a7 fs.length c7, fs)]) w1.heap.size 0 (.slice none 0 0) []) := St21.box HT8.out.1 HT8.out.2.1 (OwnG.nil _ _) (fun x hx g e e2 => by cases e2) HT8.out.2.2.1
            have HB2 : Hid (Below w1.heap.size w1 ((w8.setCell ⟨w1.heap.size, 0, none⟩ (.int .i64 0)).setCell ⟨w1.heap.size, 1, none⟩ (.slice none 0 0))) := (HT8.out.2.2.2.setCell (Nat.le_refl _) _).setCell (Nat.le_refl _) _
            go_roundg (gk - 1)
            case measure => have := HG.out; omega
            case rel => exact ⟨k + 1, 0, L ++ [(ln, .slice a7 fs.length c7, fs)], 0, a8, c8, none, 0, [], by have := HG.out; omega, by go_num, by simp, by simp; omega, by simp, by rw [List.length_append]; exact HS2.out, ⟨by have := HUd.out; omega, fun f hf => (by cases hf)⟩, by rw [sgS_snoc]; exact HKg.out, HB2.out⟩
      · have htn : trF p ≠ [] := fun e => ht0 (by rw [e]; rfl)
        have HKf : Hid (R = if p.head? = some 35 then rdS (ps.drop (k + 1)) (((k + 1 : Nat) : Int) + 1) (sgS L) (ln, fs) else match stepP (ln, fs) p ((k : Int) + 1) with | .error e => .error (e, (k : Int) + 1) | .ok n => rdS (ps.drop (k + 1)) (((k + 1 : Nat) : Int) + 1) (sgS L) n) := by show _ = _; rw [HKe.out, if_neg htn]
        have hst2 : (((⟨(trF p).toArray⟩ : ByteArray).size : Int) == 0) = false := by rw [hsT]; exact beq_eq_false_iff_ne.2 (by omega)
        have hpl : 0 < (⟨p.toArray⟩ : ByteArray).size := by rw [sizeL]; have := trF_le p; omega
        have hph : p.head? = some ((⟨p.toArray⟩ : ByteArray)[0]'hpl) := by have := ba_head hpl; rw [strV_list] at this; exact (congrArg List.head? this).trans rfl
        clear HKe htn ht0 hsT
        generalize (⟨(trF p).toArray⟩ : ByteArray) = TT at *
        have hpz : (⟨p.toArray⟩ : ByteArray).size = p.length := sizeL _
        have hPut := fun (W : World) (hg : OwnG w1.heap.size W (.slice a7 fs.length c7) fs) (hW : w1.heap.size ≤ W.heap.size) => rPut21_any ln (.slice a7 fs.length c7) fs ⟨p.toArray⟩ ((k : Int) + 1) W w1.heap.size hg hW hpl (by rw [hpz]; have := HUd.out; omega) (by omega) (fun f hf => by have h1 := HUf.out f hf; have h2 := HUd.out; omega)
        rw [strV_list] at hPut
        have HPut : Hid (Calls Tryd.prog 20 #[.agg #[.int .i64 ln, .slice a7 fs.length c7], .string ⟨p.toArray⟩, .int .i64 ((k : Int) + 1)] wr fun e w' => PutS w1.heap.size wr ln (.slice a7 fs.length c7) e w' (stepP (ln, fs) p ((k : Int) + 1))) := hPut wr HS.out.g HB.out.size
        clear hPut
        obtain ⟨z, hz⟩ : ∃ z : Int, z = ((((⟨p.toArray⟩ : ByteArray)[0]'hpl).toNat : Nat) : Int) := ⟨_, rfl⟩
        have hzz : ((((⟨p.toArray⟩ : ByteArray)[0]'hpl).toNat : Nat) : Int) = z := hz.symm
        have z0 := HS.out.z.c0
        have z1 := HS.out.z.c1
        have zf0 := HS.out.z.fz 0
        have zf1 := HS.out.z.fz 1
        have hpi : (0 : Int) < ((⟨p.toArray⟩ : ByteArray).size : Int) := by omega
        by_cases h35 : z = 35
        · have h35b : ((⟨p.toArray⟩ : ByteArray)[0]'hpl) = 35 := UInt8.toNat_inj.1 (by show _ = 35; omega)
          have HKg : Hid (R = rdS (ps.drop (k + 1)) (((k + 1 : Nat) : Int) + 1) (sgS L) (ln, fs)) := by show _ = _; rw [HKf.out, if_pos (by rw [hph, h35b])]
          clear HKf hph h35b HPut hz hpz
          subst h35
          go_wp2
          all_goals
            go_roundg (gk - 1)
            case measure => have := HG.out; omega
            case rel => exact ⟨k + 1, U, L, ln, a5, c5, a7, c7, fs, by have := HG.out; omega, by go_num, rfl, by omega, by omega, HS.out, ⟨by have := HUd.out; omega, HUf.out⟩, HKg.out, HB.out⟩
        · have hzb : (z == 35) = false := by simpa using h35
          have HKg : Hid (R = match stepP (ln, fs) p ((k : Int) + 1) with | .error e => .error (e, (k : Int) + 1) | .ok n => rdS (ps.drop (k + 1)) (((k + 1 : Nat) : Int) + 1) (sgS L) n) := by
            show _ = _
            rw [HKf.out, if_neg]
            rw [hph]
            intro e
            injection e with e
            exact h35 (by rw [hz, e]; rfl)
          have HSz : Hid (∀ n, stepP (ln, fs) p ((k : Int) + 1) = .ok n → (∀ f ∈ n.2, f.1.length ≤ U + p.length + 1 ∧ f.2.length ≤ U + p.length + 1) ∧ n.2.length ≤ fs.length + 1) := fun n h => stepP_size h HUf.out
          have HEr : Hid (∀ e, stepP (ln, fs) p ((k : Int) + 1) = .error e → (e == 0) = false ∧ (e != 0) = true) := fun e h => stepP_err h
          clear HKf hph hz h35 hpz
          generalize hP : stepP (ln, fs) p ((k : Int) + 1) = PP at *
          clear hP
          generalize (⟨p.toArray⟩ : ByteArray) = PB at *
          have hBs : w.heap.size ≤ w1.heap.size := HB1.out.size
          cases PP with
          | error er =>
            obtain ⟨e1, e2⟩ := HEr.out er rfl
            have HE : Hid (R = .error (er, (k : Int) + 1)) := HKg.out
            clear HKg HSz HEr
            go_wp2_with fail
            refine HPut.out.mono ?_
            rintro e w2 ⟨rfl, be⟩
            have HBf : Hid (Below w.heap.size w (w2.alloc (.cells #[.int .i64 ln, .slice a7 fs.length c7] 35))) := by
              have h1 : Below w.heap.size w w2 := (HB1.out.trans (HB.out.mono hBs)).trans (be.mono (Nat.le_trans hBs HB.out.size))
              exact Below.alloc h1 h1.size _
            clear be HPut
            go_wp2
            all_goals
              go_returns
              rw [HE.out]
              exact ⟨rfl, HBf.out⟩
          | ok n =>
            obtain ⟨n1, n2⟩ := n
            have HE : Hid (R = rdS (ps.drop (k + 1)) (((k + 1 : Nat) : Int) + 1) (sgS L) (n1, n2)) := HKg.out
            have HSn : Hid ((∀ f ∈ n2, f.1.length ≤ U + p.length + 1 ∧ f.2.length ≤ U + p.length + 1) ∧ n2.length ≤ fs.length + 1) := HSz.out _ rfl
            clear HKg HSz HEr
            go_wp2_with fail
            refine HPut.out.mono ?_
            rintro e w2 ⟨v', rfl, ho, hg, hn⟩
            obtain ⟨p1, p2, p3⟩ := HS.out.putS hg ho hn
            have hb2 : Below w1.heap.size w1 w2 := HB.out.grown hg HB.out.size (fun q hq => (HS.out.g.own q hq).1)
            obtain ⟨a8, c8, rfl⟩ := row_form21 ho
            have hal : Below w2.heap.size w2 (w2.alloc (.cells #[.int .i64 n1, .slice a8 n2.length c8] 35)) := Below.alloc (Below.refl _ _) (Nat.le_refl _) _
            have HT3 : Hid (OwnSt w1.heap.size (w2.alloc (.cells #[.int .i64 n1, .slice a8 n2.length c8] 35)) (.slice a5 L.length c5) L) := ⟨rowT_kept p1.row fun q e => hal.block q (World.ownsRow.lt p1.row q e).2, fun x hx => (p1.own x hx).below hal, p1.ap⟩
            have HZ3 : Hid (Bz (w2.alloc (.cells #[.int .i64 n1, .slice a8 n2.length c8] 35)) w1.heap.size ln (.slice a7 fs.length c7)) := p3.blw hal p3.lt
            have HN3 : Hid (Bz (w2.alloc (.cells #[.int .i64 n1, .slice a8 n2.length c8] 35)) w2.heap.size n1 (.slice a8 n2.length c8)) := Bz.mk1 _ _ _ _ rfl
            have HO3 : Hid (OwnG w1.heap.size (w2.alloc (.cells #[.int .i64 n1, .slice a8 n2.length c8] 35)) (.slice a8 n2.length c8) n2) := ho.below hal
            have HB3 : Hid (Below w1.heap.size w1 (w2.alloc (.cells #[.int .i64 n1, .slice a8 n2.length c8] 35))) := Below.alloc hb2 hb2.size _
            have HA3 : Hid (∀ x ∈ L, apG x.2.1 (.slice a8 n2.length c8)) := p2
            have hsn : w2.heap.size ≠ w1.heap.size := by have := p3.lt; omega
            clear p1 p2 p3 ho hg hn hb2 hal HPut z0 z1 zf0 zf1
            have q0 := HN3.out.c0
            have q1 := HN3.out.c1
            have r0 := HZ3.out.c0
            have r1 := HZ3.out.c1
            have rf0 := HZ3.out.fz 0
            have rf1 := HZ3.out.fz 1
            have HS4 : Hid (St21 w1.heap.size (((w2.alloc (.cells #[.int .i64 n1, .slice a8 n2.length c8] 35)).setCell ⟨w1.heap.size, 0, none⟩ (.int .i64 n1)).setCell ⟨w1.heap.size, 1, none⟩ (.slice a8 n2.length c8)) (.slice a5 L.length c5) L w1.heap.size n1 (.slice a8 n2.length c8) n2) := St21.box HT3.out HZ3.out HO3.out HA3.out HS.out.nd
            have HB4 : Hid (Below w1.heap.size w1 (((w2.alloc (.cells #[.int .i64 n1, .slice a8 n2.length c8] 35)).setCell ⟨w1.heap.size, 0, none⟩ (.int .i64 n1)).setCell ⟨w1.heap.size, 1, none⟩ (.slice a8 n2.length c8))) := (HB3.out.setCell (Nat.le_refl _) _).setCell (Nat.le_refl _) _
            go_wp2
            all_goals
              go_roundg (gk - 1)
              case measure => have := HG.out; omega
              case rel => exact ⟨k + 1, U + p.length + 1, L, n1, a5, c5, a8, c8, n2, by have := HG.out; omega, by go_num, rfl, by omega, by have := HSn.out.2; omega, HS4.out, ⟨by have := HUd.out; omega, HSn.out.1⟩, HE.out, HB4.out⟩
    · have hRe : R = .ok (if fs = [] then sgS L else sgS L ++ [(ln, fs)]) := by rw [HK.out, List.drop_eq_nil_of_le (by omega)]; rfl
      have z0 := HS.out.z.c0
      have z1 := HS.out.z.c1
      have HBw : Hid (Below w.heap.size w wr) := HB1.out.trans (HB.out.mono HB1.out.size)
      have hBs : w.heap.size ≤ w1.heap.size := HB1.out.size
      have hkb : k ≤ ps.length := by omega
      clear hk HK
      by_cases h0 : fs.length = 0
      · have hn0 : fs = [] := List.eq_nil_of_length_eq_zero h0
        have HE : Hid (R = .ok (sgS L)) := by show _ = _; rw [hRe, if_pos hn0]
        have h0i : ¬ (0 : Int) < fs.length := by omega
        clear hRe hn0 h0
        go_wp2
        go_returns
        rw [HE.out]
        exact ⟨_, L, rfl, OwnSt.mono HS.out.t hBs, rfl, HBw.out⟩
      · have hn0 : fs ≠ [] := fun e => h0 (by rw [e]; rfl)
        have HE : Hid (R = .ok (sgS L ++ [(ln, fs)])) := by show _ = _; rw [hRe, if_neg hn0]
        have h0i : (0 : Int) < fs.length := by omega
        clear hRe hn0 h0
        have HRow : Hid ((wr.alloc (.cells #[.int .i64 ln, .slice a7 fs.length c7] 35)).ownsRow w1.heap.size 35 2 (.slice a5 L.length c5) L.length (sgC L)) := World.ownsRow.alloc HS.out.t.row _
        have HNw : Hid (∀ j u, [Value.int .i64 ln, Value.slice a7 fs.length c7][j]? = some u → (wr.alloc (.cells #[.int .i64 ln, .slice a7 fs.length c7] 35)).cell? ((⟨wr.heap.size, 0, none⟩ : Addr).add j) = some u) := two_newA _ _ _ _
        have hsb : w1.heap.size ≤ wr.heap.size := HB.out.size
        have HDn : Hid (∀ s8 w8, w8.ownsRow w1.heap.size 35 2 s8 (L.length + 1) (sgC L ++ [.int .i64 ln, .slice a7 fs.length c7]) → Ap (wr.alloc (.cells #[.int .i64 ln, .slice a7 fs.length c7] 35)) (.slice a5 L.length c5) w8 s8 → (OwnSt w1.heap.size w8 s8 (L ++ [(ln, .slice a7 fs.length c7, fs)]) ∧ Bz w8 w1.heap.size ln (.slice a7 fs.length c7) ∧ s8.ownBlock ≠ some w1.heap.size ∧ ∃ a8 c8, s8 = .slice a8 (L.length + 1) c8) ∧ Below w1.heap.size w1 w8) := fun s8 w8 o8 p8 => ⟨St21.done HS.out o8 p8, (HB.out.alloc hsb _).grown p8.grown (by simp; omega) (fun q hq => (World.ownsRow.lt HS.out.t.row q hq).1)⟩
        go_wp2_with (at_builtin; refine wpList_append_apk rfl (.tmp 64) (.tmp 66) 23 rfl w1.heap.size 35 i0 (.agg #[.int .i64 0, .slice none 0 0]) 2 32 Tryd.underlying23 HIn.out.1 HIn.out.2.1 HIn.out.2.2.1 HIn.out.2.2.2 rfl (by decide) (.slice a5 L.length c5) L.length (sgC L) rfl HRow.out ⟨wr.heap.size, 0, none⟩ 1 1 [.int .i64 ln, .slice a7 fs.length c7] rfl rfl HNw.out (by simp [Value.oneCell']) (by unfold maxLen; omega) (by omega) (by simp; omega) ?_; intro v8 w8 own8 ap8; obtain ⟨⟨t8, z8, n8, a8, c8, rfl⟩, b8⟩ := HDn.out v8 w8 own8 ap8; have HT8 : Hid (OwnSt w1.heap.size w8 (.slice a8 (L.length + 1) c8) (L ++ [(ln, .slice a7 fs.length c7, fs)]) ∧ Bz w8 w1.heap.size ln (.slice a7 fs.length c7) ∧ (Value.slice a8 (L.length + 1) c8).ownBlock ≠ some w1.heap.size ∧ Below w1.heap.size w1 w8) := ⟨t8, z8, n8, b8⟩; have y0 := z8.c0; have y1 := z8.c1; have yf0 := z8.fz 0; have yf1 := z8.fz 1; clear own8 ap8 t8 z8 n8 b8)
        go_returns
        rw [HE.out]
        exact ⟨_, L ++ [(ln, .slice a7 fs.length c7, fs)], rfl, OwnSt.mono (by simpa using HT8.out.1) hBs, by rw [sgS_snoc], HB1.out.trans (HT8.out.2.2.2.mono hBs)⟩

end Go.Proofs.YtblkhkfjaggnfaaDoor
