/-
  The document's one: the relation that begins at a place, walked.
  KEEP: len below nil form rd mono on app start at new trans refl kept own row out grown rdz set one more lt size cell some none letL tail next step go add put del get look no yes e c f b k n m box
-/
import Derived.Test.YtmanjignognplaaDoorRlQ
import Derived.Deep.RegionLaw
set_option linter.unusedSimpArgs false
set_option linter.unusedVariables false
namespace Go.Proofs.YtmanjignognplaaDoor
open Go Go.RowKit

theorem opF_range (T : ByteArray) : 0 ≤ opF T ∧ opF T < 6 := by unfold opF; repeat' split; all_goals omega
theorem opF_sg {j : Int} (h1 : 1 ≤ j) (h2 : j ≤ 5) : opF (sgF j) = j := by
  have : j = 1 ∨ j = 2 ∨ j = 3 ∨ j = 4 ∨ j = 5 := by omega
  rcases this with rfl | rfl | rfl | rfl | rfl <;> rfl
theorem opF_iff {j : Int} (h1 : 1 ≤ j) (h2 : j ≤ 5) {T : ByteArray} (h : opF T = j) : sgF j = T := by
  unfold opF at h
  repeat' split at h
  all_goals first | (exfalso; omega) | (subst h; rename_i e; rw [e]; rfl)
theorem ba22 {a b : ByteArray} (h : a.toList = b.toList) : a = b := by
  rw [ByteArray.toList_eq, ByteArray.toList_eq] at h
  cases a; cases b
  have h2 := Array.toList_inj.1 h
  simp at h2; rw [h2]
theorem ba22_ne {a b : ByteArray} (h : ¬ a = b) : (a.toList == b.toList) = false := beq_eq_false_iff_ne.2 fun e => h (ba22 e)
def onV (r : On1) : Value := .tuple #[.agg #[.string r.n, .int .i64 r.o, .string r.v], .int .i64 r.e, .int .i64 r.k]
theorem ret_rq {fn : Func} {p u x : Tmp} {tmps : Array Value} {W : World} {D : Nat} {n v : ByteArray} {o : Int} (h : fn.results = #[.cell p 23, .tmp u, .tmp x]) (hp : tmps.getD p undef = .pointer (some ⟨D, 0, none⟩)) (hb : Rq W D n o v) :
    (results fn tmps).run Tryd.prog W = .ok (.tuple #[.agg #[.string n, .int .i64 o, .string v], tmps.getD u undef, tmps.getD x undef]) W := by
  have c0 := hb.c0
  have c1 := hb.c1
  have c2 := hb.c2
  simp only [Array.getD_eq_getD_getElem?] at hp ⊢
  simp [results, h, hp, go_sem, c0, c1, c2]
set_option maxHeartbeats 6400000 in
set_option maxRecDepth 20000 in
theorem rOne22_any (s : ByteArray) (k : Nat) (w : World) (hs : s.size ≤ 281474976710656) (hk : k ≤ s.size)
    (HL0 : ∀ (v : ByteArray), v.size ≤ 281474976710656 → ∀ V, Calls Tryd.prog 26 #[.string v] V fun e w' => e = .returned (.bool (okS v)) ∧ Below V.heap.size V w') :
    Calls Tryd.prog 46 #[.string s, .int .i64 k] w fun e w' => e = .returned (onV (oneF s k)) ∧ Below w.heap.size w w' := by
  obtain ⟨R, hR⟩ : ∃ R, R = oneF s k := ⟨_, rfl⟩
  rw [← hR]
  have HSz : Hid (s.data.toList.length = s.size) := size20 s
  have HBeh : Hid (∀ (j : Nat), j ≤ s.size → ∀ V, Calls Tryd.prog 45 #[.string s, .int .i64 j] V fun e w' => e = .returned (.int .i64 (runF gapZ s.data.toList j)) ∧ w' = V) := fun j hj V => rBehind22_any s j V hs hj
  have HWrd : Hid (∀ (j : Nat), j ≤ s.size → ∀ V, Calls Tryd.prog 63 #[.string s, .int .i64 j] V fun e w' => e = .returned (.int .i64 (runF wrdZ s.data.toList j)) ∧ w' = V) := fun j hj V => rWord22_any s j V hs hj
  have HSgn : Hid (∀ (j : Nat), j ≤ s.size → ∀ V, Calls Tryd.prog 64 #[.string s, .int .i64 j] V fun e w' => e = .returned (.int .i64 (runF sgnZ s.data.toList j)) ∧ w' = V) := fun j hj V => rSign22_any s j V hs hj
  have HNm : Hid (∀ (v : ByteArray), v.size ≤ 281474976710656 → ∀ V, Calls Tryd.prog 9 #[.string v] V fun e w' => e = .returned (.bool (rnmF v.data.toList)) ∧ w' = V) := fun v hv V => rName22_any v V hv
  have HLg : Hid (∀ (v : ByteArray), v.size ≤ 281474976710656 → ∀ V, Calls Tryd.prog 26 #[.string v] V fun e w' => e = .returned (.bool (okS v)) ∧ Below V.heap.size V w') := HL0
  have HRl : Hid (∀ (p : Int → Bool) (j : Nat), j ≤ s.size → j ≤ runF p s.data.toList j ∧ runF p s.data.toList j ≤ s.size) := fun p j hj => ⟨runF_ge p _ j, by have := runF_le p s.data.toList j (by rw [HSz.out]; exact hj); rw [HSz.out] at this; exact this⟩
  have HR : Hid (R = oneF s k) := hR
  clear hR HL0
  obtain ⟨hkt, hts⟩ := HRl.out wrdZ k hk
  have HW1 := (HWrd.out k hk)
  have HR1 : Hid (R = if runF wrdZ s.data.toList k = k then noR 220 k else if rnmF (s.extract k (runF wrdZ s.data.toList k)).data.toList = false then noR 230 k else onA s (s.extract k (runF wrdZ s.data.toList k)) (runF gapZ s.data.toList (runF wrdZ s.data.toList k))) := HR.out
  have HW : Hid (∀ V, Calls Tryd.prog 63 #[.string s, .int .i64 k] V fun e w' => e = .returned (.int .i64 (runF wrdZ s.data.toList k)) ∧ w' = V) := HW1
  clear HR HW1
  generalize runF wrdZ s.data.toList k = t at *
  go_enter Tryd.func46, Tryd.ntmps46
  go_wp2_with fail
  have HBa : Hid (Below w.heap.size w (w.alloc (.cells #[.string ⟨#[]⟩, .int .i64 0, .string ⟨#[]⟩] 23))) := Below.alloc (Below.refl _ _) (Nat.le_refl _) _
  have HQ : Hid (Rq (w.alloc (.cells #[.string ⟨#[]⟩, .int .i64 0, .string ⟨#[]⟩] 23)) w.heap.size ⟨#[]⟩ 0 ⟨#[]⟩) := Rq.newS _ _ _ _ _ rfl
  generalize w.alloc (.cells #[.string ⟨#[]⟩, .int .i64 0, .string ⟨#[]⟩] 23) = W0 at *
  refine (HW.out _).mono ?_
  rintro e w9 ⟨rfl, h9⟩
  have h9s := h9.symm; clear h9; subst h9s
  by_cases c0 : t = k
  · subst c0
    have HE : Hid (R = noR 220 t) := by show _ = _; rw [HR1.out, if_pos rfl]
    clear HR1
    have hD := HQ.out.lt
    have f0 := HQ.out.f 0
    have f1 := HQ.out.f 1
    have f2 := HQ.out.f 2
    have q0 := HQ.out.c0
    have q1 := HQ.out.c1
    have q2 := HQ.out.c2
    go_wp2
    have Z : Hid (Rq ((((W0).setCell ⟨w.heap.size, 0, none⟩ (.string ⟨#[]⟩)).setCell ⟨w.heap.size, 1, none⟩ (.int .i64 0)).setCell ⟨w.heap.size, 2, none⟩ (.string ⟨#[]⟩)) w.heap.size ⟨#[]⟩ 0 ⟨#[]⟩) := ((HQ.out.s0 ⟨#[]⟩).s1 0).s2 ⟨#[]⟩
    have ZB : Hid (Below w.heap.size w ((((W0).setCell ⟨w.heap.size, 0, none⟩ (.string ⟨#[]⟩)).setCell ⟨w.heap.size, 1, none⟩ (.int .i64 0)).setCell ⟨w.heap.size, 2, none⟩ (.string ⟨#[]⟩))) := belowQ (belowQ (belowQ HBa.out (Nat.le_refl _) 0 _) (Nat.le_refl _) 1 _) (Nat.le_refl _) 2 _
    generalize ((((W0).setCell ⟨w.heap.size, 0, none⟩ (.string ⟨#[]⟩)).setCell ⟨w.heap.size, 1, none⟩ (.int .i64 0)).setCell ⟨w.heap.size, 2, none⟩ (.string ⟨#[]⟩)) = Wz at *
    refine bodyPost_ret (ret_rq rfl rfl Z.out) rfl ?_
    exact ⟨by rw [HE.out]; rfl, ZB.out⟩
  have d0 : ((t : Int) == (k : Int)) = false := by simp; omega
  have HR2 : Hid (R = if rnmF (s.extract k t).data.toList = false then noR 230 k else onA s (s.extract k t) (runF gapZ s.data.toList t)) := by show _ = _; rw [HR1.out, if_neg c0]
  have hns : (s.extract k t).size ≤ 281474976710656 := by rw [ByteArray.size_extract]; omega
  have HN : Hid (∀ V, Calls Tryd.prog 9 #[.string (s.extract k t)] V fun e w' => e = .returned (.bool (rnmF (s.extract k t).data.toList)) ∧ w' = V) := HNm.out _ hns
  clear HR1 HW c0 hns
  have i1 : (0 : Int) ≤ (k : Int) ∧ (k : Int) ≤ (t : Int) := by omega
  go_wp2_with fail
  have hD0 := HQ.out.lt
  have HD0 : Hid (w.heap.size < W0.heap.size) := hD0
  have HBb : Hid (Below w.heap.size w (W0.alloc (.cells #[.string (s.extract k t), .int .i64 0, .string ⟨#[]⟩] 23))) := Below.alloc HBa.out (Nat.le_of_lt hD0) _
  have HQb : Hid (Rq (W0.alloc (.cells #[.string (s.extract k t), .int .i64 0, .string ⟨#[]⟩] 23)) W0.heap.size (s.extract k t) 0 ⟨#[]⟩) := Rq.newS _ _ _ _ _ rfl
  have HQ0 : Hid (Rq (W0.alloc (.cells #[.string (s.extract k t), .int .i64 0, .string ⟨#[]⟩] 23)) w.heap.size ⟨#[]⟩ 0 ⟨#[]⟩) := HQ.out.below (Below.alloc (Below.refl _ _) (Nat.le_refl _) _) hD0
  clear HBa HQ hD0 i1
  generalize W0.alloc (.cells #[.string (s.extract k t), .int .i64 0, .string ⟨#[]⟩] 23) = W1 at *
  generalize W0.heap.size = D1 at *
  generalize s.extract k t = n at *
  clear W0
  refine (HN.out _).mono ?_
  rintro e w9 ⟨rfl, h9⟩
  have h9s := h9.symm; clear h9; subst h9s
  have hD := HQ0.out.lt
  have f0 := HQ0.out.f 0
  have f1 := HQ0.out.f 1
  have f2 := HQ0.out.f 2
  have q0 := HQ0.out.c0
  have q1 := HQ0.out.c1
  have q2 := HQ0.out.c2
  cases hN : rnmF n.data.toList
  · have HE : Hid (R = noR 230 k) := by show _ = _; rw [HR2.out, if_pos hN]
    clear HR2 HN
    go_wp2
    have Z : Hid (Rq ((((W1).setCell ⟨w.heap.size, 0, none⟩ (.string ⟨#[]⟩)).setCell ⟨w.heap.size, 1, none⟩ (.int .i64 0)).setCell ⟨w.heap.size, 2, none⟩ (.string ⟨#[]⟩)) w.heap.size ⟨#[]⟩ 0 ⟨#[]⟩) := ((HQ0.out.s0 ⟨#[]⟩).s1 0).s2 ⟨#[]⟩
    have ZB : Hid (Below w.heap.size w ((((W1).setCell ⟨w.heap.size, 0, none⟩ (.string ⟨#[]⟩)).setCell ⟨w.heap.size, 1, none⟩ (.int .i64 0)).setCell ⟨w.heap.size, 2, none⟩ (.string ⟨#[]⟩))) := belowQ (belowQ (belowQ HBb.out (Nat.le_refl _) 0 _) (Nat.le_refl _) 1 _) (Nat.le_refl _) 2 _
    generalize ((((W1).setCell ⟨w.heap.size, 0, none⟩ (.string ⟨#[]⟩)).setCell ⟨w.heap.size, 1, none⟩ (.int .i64 0)).setCell ⟨w.heap.size, 2, none⟩ (.string ⟨#[]⟩)) = Wz at *
    refine bodyPost_ret (ret_rq rfl rfl Z.out) rfl ?_
    exact ⟨by rw [HE.out]; rfl, ZB.out⟩
  have HR3 : Hid (R = onA s n (runF gapZ s.data.toList t)) := by show _ = _; rw [HR2.out, if_neg (by rw [hN]; simp)]
  clear HR2 HN hN
  have HBh : Hid (∀ V, Calls Tryd.prog 45 #[.string s, .int .i64 t] V fun e w' => e = .returned (.int .i64 (runF gapZ s.data.toList t)) ∧ w' = V) := HBeh.out t hts
  obtain ⟨hta, has⟩ := HRl.out gapZ t hts
  generalize runF gapZ s.data.toList t = a at *
  go_wp2_with fail
  refine (HBh.out _).mono ?_
  rintro e w9 ⟨rfl, h9⟩
  have h9s := h9.symm; clear h9; subst h9s
  clear HBh
  by_cases hlt : a < s.size
  · have hat := atB_in hlt
    obtain ⟨z, hz⟩ : ∃ z : Int, z = (((s[a]'hlt).toNat : Nat) : Int) := ⟨_, rfl⟩
    have hzz : (((s[a]'hlt).toNat : Nat) : Int) = z := hz.symm
    rw [← hz] at hat
    clear hz
    have hae : ((a : Int) == (s.size : Int)) = false := by simp; omega
    by_cases hz : z = 40
    · subst hz
      have HR4 : Hid (R = onB s n (runF gapZ s.data.toList (a + 1))) := by show _ = _; rw [HR3.out, onA, if_pos hat]
      have hc1 : ((a + 1 : Nat) : Int) = (a : Int) + 1 := by omega
      have HBh0 := HBeh.out (a + 1) (by omega)
      rw [hc1] at HBh0
      have HBh : Hid (∀ V, Calls Tryd.prog 45 #[.string s, .int .i64 ((a : Int) + 1)] V fun e w' => e = .returned (.int .i64 (runF gapZ s.data.toList (a + 1))) ∧ w' = V) := HBh0
      obtain ⟨hab, hbs⟩ := HRl.out gapZ (a + 1) (by omega)
      have hw1 : IntKind.i64.wrap ((a : Int) + 1) = (a : Int) + 1 := by rw [IntKind.wrap_i64]; omega
      have hz1 : ((40 : Int) != 40) = false := rfl
      clear HR3 hat HBh0 hc1
      generalize runF gapZ s.data.toList (a + 1) = b at *
      go_wp2_with fail
      refine (HBh.out _).mono ?_
      rintro e w9 ⟨rfl, h9⟩
      have h9s := h9.symm; clear h9; subst h9s
      obtain ⟨hbc, hcs⟩ := HRl.out sgnZ b hbs
      have HSg : Hid (∀ V, Calls Tryd.prog 64 #[.string s, .int .i64 b] V fun e w' => e = .returned (.int .i64 (runF sgnZ s.data.toList b)) ∧ w' = V) := HSgn.out b hbs
      have HR5 : Hid (R = if opF (s.extract b (runF sgnZ s.data.toList b)) = 0 then noR 220 b else onC s n (opF (s.extract b (runF sgnZ s.data.toList b))) (runF gapZ s.data.toList (runF sgnZ s.data.toList b))) := HR4.out
      clear HR4 HBh hw1 hz1 hzz hae hlt
      generalize runF sgnZ s.data.toList b = c at *
      go_wp2_with fail
      refine (HSg.out _).mono ?_
      rintro e w9 ⟨rfl, h9⟩
      have h9s := h9.symm; clear h9; subst h9s
      clear HSg q0 q1 q2 f0 f1 f2 hD
      obtain ⟨hO0, hO6⟩ := opF_range (s.extract b c)
      have HOi : Hid (∀ j : Int, 1 ≤ j → j ≤ 5 → (sgF j = s.extract b c ↔ opF (s.extract b c) = j)) := fun j h1 h2 => ⟨fun h => by rw [← h]; exact opF_sg h1 h2, opF_iff h1 h2⟩
      have HSn : Hid (∀ (j : Int) V, Calls Tryd.prog 25 #[.int .i64 j] V fun e w' => e = .returned (.string (sgF j)) ∧ w' = V) := fun j V => rSign22o_any j V
      generalize opF (s.extract b c) = O at *
      go_wp2
      go_loopg [9] 5 (fun g i wr => ∃ j : Nat, j + g = 6 ∧ i = .int .i64 j ∧ 1 ≤ j ∧ Hid (Rq wr D1 n (if O < j then O else 0) ⟨#[]⟩) ∧ Hid (Rq wr w.heap.size ⟨#[]⟩ 0 ⟨#[]⟩) ∧ Hid (Below w.heap.size w wr))
      case atStart => exact ⟨1, rfl, rfl, Nat.le_refl _, by have h0 : (if O < ((1 : Nat) : Int) then O else 0) = 0 := (by split <;> omega); rw [h0]; exact HQb.out, HQ0.out, HBb.out⟩
      case round =>
        obtain ⟨j, hj, rfl, hj1, HQr, HQz, HBr⟩ := hrel
        have HG : Hid (j + gk = 6) := hj
        clear HQb HQ0 HBb W1
        by_cases hj5 : j ≤ 5
        · have hji : (j : Int) ≤ 5 := by omega
          have hrlt := HQr.out.lt
          have g1 := HQr.out.f 1
          have r1 := HQr.out.c1
          have i2 : (0 : Int) ≤ (b : Int) ∧ (b : Int) ≤ (c : Int) := by omega
          have HSj : Hid (∀ V, Calls Tryd.prog 25 #[.int .i64 j] V fun e w' => e = .returned (.string (sgF j)) ∧ w' = V) := HSn.out j
          have hio := HOi.out j (by omega) hji
          generalize sgF j = Sg at *
          by_cases hsg : Sg = s.extract b c
          · have hOj : O = j := hio.1 hsg
            have HQn : Hid (Rq (wr.setCell ⟨D1, 1, none⟩ (.int .i64 j)) D1 n (if O < ((j + 1 : Nat) : Int) then O else 0) ⟨#[]⟩) := by
              have h0 : (if O < ((j + 1 : Nat) : Int) then O else 0) = (j : Int) := by rw [if_pos (by omega)]; exact hOj
              show Rq _ _ _ _ _
              rw [h0]; exact HQr.out.s1 j
            have HQzn : Hid (Rq (wr.setCell ⟨D1, 1, none⟩ (.int .i64 j)) w.heap.size ⟨#[]⟩ 0 ⟨#[]⟩) := HQz.out.off (by have := HD0.out; omega) _ _
            have HBn : Hid (Below w.heap.size w (wr.setCell ⟨D1, 1, none⟩ (.int .i64 j))) := belowQ HBr.out (by have := HD0.out; omega) 1 _
            clear hio hOj HQr HQz HBr hj hj5 hO0 hO6
            go_wp2_with fail
            go_cut [61] from 55 to 61 (fun p wx => p = .bool true ∧ wx = wr.drew)
            case first =>
              go_region_law (go_wp2_with (go_at_call 25; refine (HSj.out _).mono ?_; rintro e w8 ⟨rfl, h8⟩; have h8s := h8.symm; clear h8; subst h8s))
              all_goals
                go_wp2_with fail
                go_meet
                exact ⟨rfl, rfl⟩
            case rest =>
              obtain ⟨rfl, rfl⟩ := hcut
              have r1d : wr.drew.cell? ⟨D1, 1, none⟩ = some (.int .i64 (if O < j then O else 0)) := r1
              have g1d : wr.drew.frozen? ⟨D1, 1, none⟩ = false := g1
              have hrltd : D1 < wr.drew.heap.size := hrlt
              clear r1 g1 hrlt
              have HX : Hid (Rq (wr.drew.setCell ⟨D1, 1, none⟩ (.int .i64 j)) D1 n (if O < ((j + 1 : Nat) : Int) then O else 0) ⟨#[]⟩) := HQn.out
              have HY : Hid (Rq (wr.drew.setCell ⟨D1, 1, none⟩ (.int .i64 j)) w.heap.size ⟨#[]⟩ 0 ⟨#[]⟩) := HQzn.out
              have HZ : Hid (Below w.heap.size w (wr.drew.setCell ⟨D1, 1, none⟩ (.int .i64 j))) := HBn.out.drew
              have hw2 : IntKind.i64.wrap ((j : Int) + 1) = (j : Int) + 1 := by rw [IntKind.wrap_i64]; omega
              go_wp2
              go_roundg (gk - 1)
              case measure => have := HG.out; omega
              case rel => exact ⟨j + 1, by have := HG.out; omega, by first | rfl | go_num, by omega, HX.out, HY.out, HZ.out⟩
          · have hOj : ¬ O = j := fun e => hsg (hio.2 e)
            have hsgl := ba22_ne hsg
            have HQn : Hid (Rq wr D1 n (if O < ((j + 1 : Nat) : Int) then O else 0) ⟨#[]⟩) := by
              have h0 : (if O < ((j + 1 : Nat) : Int) then O else 0) = (if O < (j : Int) then O else 0) := by
                by_cases h : O < j
                · rw [if_pos h, if_pos (by omega)]
                · rw [if_neg h, if_neg (by omega)]
              show Rq _ _ _ _ _
              rw [h0]; exact HQr.out
            clear hio hOj HQr hj hj5 hO0 hO6
            go_wp2_with fail
            go_cut [61] from 55 to 61 (fun p wx => p = .bool false ∧ wx = wr.drew)
            case first =>
              go_region_law (go_wp2_with (go_at_call 25; refine (HSj.out _).mono ?_; rintro e w8 ⟨rfl, h8⟩; have h8s := h8.symm; clear h8; subst h8s))
              all_goals
                go_wp2_with fail
                go_meet
                exact ⟨rfl, rfl⟩
            case rest =>
              obtain ⟨rfl, rfl⟩ := hcut
              have HX : Hid (Rq wr.drew D1 n (if O < ((j + 1 : Nat) : Int) then O else 0) ⟨#[]⟩) := HQn.out
              have HY : Hid (Rq wr.drew w.heap.size ⟨#[]⟩ 0 ⟨#[]⟩) := HQz.out
              have HZ : Hid (Below w.heap.size w wr.drew) := HBr.out.drew
              have hw2 : IntKind.i64.wrap ((j : Int) + 1) = (j : Int) + 1 := by rw [IntKind.wrap_i64]; omega
              clear HQn HQz HBr r1 g1 hrlt
              go_wp2
              go_roundg (gk - 1)
              case measure => have := HG.out; omega
              case rel => exact ⟨j + 1, by have := HG.out; omega, by first | rfl | go_num, by omega, HX.out, HY.out, HZ.out⟩
        · have hj6 : j = 6 := by omega
          subst hj6
          have hOO : (if O < ((6 : Nat) : Int) then O else 0) = O := if_pos hO6
          rw [hOO] at HQr
          have HQ1 : Hid (Rq wr D1 n O ⟨#[]⟩) := HQr.out
          have HBq : Hid (Below w.heap.size w wr) := HBr.out
          have p1 := HQ1.out.c1
          have hD := HQz.out.lt
          have f0 := HQz.out.f 0
          have f1 := HQz.out.f 1
          have f2 := HQz.out.f 2
          have q0 := HQz.out.c0
          have q1 := HQz.out.c1
          have q2 := HQz.out.c2
          clear hj hj5 hOO hO0 hO6 HOi HSn HQr HBr HG hj1
          by_cases hO : O = 0
          · subst hO
            have HE : Hid (R = noR 220 b) := by show _ = _; rw [HR5.out, if_pos rfl]
            clear HR5
            go_wp2
            have Z : Hid (Rq ((((wr).setCell ⟨w.heap.size, 0, none⟩ (.string ⟨#[]⟩)).setCell ⟨w.heap.size, 1, none⟩ (.int .i64 0)).setCell ⟨w.heap.size, 2, none⟩ (.string ⟨#[]⟩)) w.heap.size ⟨#[]⟩ 0 ⟨#[]⟩) := ((HQz.out.s0 ⟨#[]⟩).s1 0).s2 ⟨#[]⟩
            have ZB : Hid (Below w.heap.size w ((((wr).setCell ⟨w.heap.size, 0, none⟩ (.string ⟨#[]⟩)).setCell ⟨w.heap.size, 1, none⟩ (.int .i64 0)).setCell ⟨w.heap.size, 2, none⟩ (.string ⟨#[]⟩))) := belowQ (belowQ (belowQ HBq.out (Nat.le_refl _) 0 _) (Nat.le_refl _) 1 _) (Nat.le_refl _) 2 _
            generalize ((((wr).setCell ⟨w.heap.size, 0, none⟩ (.string ⟨#[]⟩)).setCell ⟨w.heap.size, 1, none⟩ (.int .i64 0)).setCell ⟨w.heap.size, 2, none⟩ (.string ⟨#[]⟩)) = Wz at *
            refine bodyPost_ret (ret_rq rfl rfl Z.out) rfl ?_
            exact ⟨by rw [HE.out]; rfl, ZB.out⟩
          have dO : (O == 0) = false := by simpa using hO
          have HR6 : Hid (R = onC s n O (runF gapZ s.data.toList c)) := by show _ = _; rw [HR5.out, if_neg hO]
          obtain ⟨hcd, hds⟩ := HRl.out gapZ c hcs
          have HBd : Hid (∀ V, Calls Tryd.prog 45 #[.string s, .int .i64 c] V fun e w' => e = .returned (.int .i64 (runF gapZ s.data.toList c)) ∧ w' = V) := HBeh.out c hcs
          clear HR5 hO
          generalize runF gapZ s.data.toList c = d at *
          have HR7 : Hid (R = if runF wrdZ s.data.toList d = d then noR 220 d else if okS (s.extract d (runF wrdZ s.data.toList d)) = false then noR 200 d else onD s n O (s.extract d (runF wrdZ s.data.toList d)) (runF gapZ s.data.toList (runF wrdZ s.data.toList d))) := HR6.out
          obtain ⟨hdf, hfs⟩ := HRl.out wrdZ d hds
          have HWd : Hid (∀ V, Calls Tryd.prog 63 #[.string s, .int .i64 d] V fun e w' => e = .returned (.int .i64 (runF wrdZ s.data.toList d)) ∧ w' = V) := HWrd.out d hds
          clear HR6
          generalize runF wrdZ s.data.toList d = f at *
          go_wp2_with fail
          refine (HBd.out _).mono ?_
          rintro e w9 ⟨rfl, h9⟩
          have h9s := h9.symm; clear h9; subst h9s
          go_wp2_with fail
          refine (HWd.out _).mono ?_
          rintro e w9 ⟨rfl, h9⟩
          have h9s := h9.symm; clear h9; subst h9s
          clear HBd HWd dO
          by_cases hf : f = d
          · subst hf
            have HE : Hid (R = noR 220 f) := by show _ = _; rw [HR7.out, if_pos rfl]
            clear HR7
            go_wp2
            have Z : Hid (Rq ((((wr).setCell ⟨w.heap.size, 0, none⟩ (.string ⟨#[]⟩)).setCell ⟨w.heap.size, 1, none⟩ (.int .i64 0)).setCell ⟨w.heap.size, 2, none⟩ (.string ⟨#[]⟩)) w.heap.size ⟨#[]⟩ 0 ⟨#[]⟩) := ((HQz.out.s0 ⟨#[]⟩).s1 0).s2 ⟨#[]⟩
            have ZB : Hid (Below w.heap.size w ((((wr).setCell ⟨w.heap.size, 0, none⟩ (.string ⟨#[]⟩)).setCell ⟨w.heap.size, 1, none⟩ (.int .i64 0)).setCell ⟨w.heap.size, 2, none⟩ (.string ⟨#[]⟩))) := belowQ (belowQ (belowQ HBq.out (Nat.le_refl _) 0 _) (Nat.le_refl _) 1 _) (Nat.le_refl _) 2 _
            generalize ((((wr).setCell ⟨w.heap.size, 0, none⟩ (.string ⟨#[]⟩)).setCell ⟨w.heap.size, 1, none⟩ (.int .i64 0)).setCell ⟨w.heap.size, 2, none⟩ (.string ⟨#[]⟩)) = Wz at *
            refine bodyPost_ret (ret_rq rfl rfl Z.out) rfl ?_
            exact ⟨by rw [HE.out]; rfl, ZB.out⟩
          have df : ((f : Int) == (d : Int)) = false := by simp; omega
          have HR8 : Hid (R = if okS (s.extract d f) = false then noR 200 d else onD s n O (s.extract d f) (runF gapZ s.data.toList f)) := by show _ = _; rw [HR7.out, if_neg hf]
          have hvs : (s.extract d f).size ≤ 281474976710656 := by rw [ByteArray.size_extract]; omega
          have HL : Hid (∀ V, Calls Tryd.prog 26 #[.string (s.extract d f)] V fun e w' => e = .returned (.bool (okS (s.extract d f))) ∧ Below V.heap.size V w') := HLg.out _ hvs
          have i3 : (0 : Int) ≤ (d : Int) ∧ (d : Int) ≤ (f : Int) := by omega
          have u2 := HQ1.out.c2
          have uf := HQ1.out.f 2
          have ul := HQ1.out.lt
          clear HR7 hf hvs q0 q1 q2 f0 f1 f2 hD
          go_wp2_with fail
          have HQ2 : Hid (Rq (wr.setCell ⟨D1, 2, none⟩ (.string (s.extract d f))) D1 n O (s.extract d f)) := HQ1.out.s2 _
          have HZ2 : Hid (Rq (wr.setCell ⟨D1, 2, none⟩ (.string (s.extract d f))) w.heap.size ⟨#[]⟩ 0 ⟨#[]⟩) := HQz.out.off (by have := HD0.out; omega) _ _
          have HB2 : Hid (Below w.heap.size w (wr.setCell ⟨D1, 2, none⟩ (.string (s.extract d f)))) := belowQ HBq.out (by have := HD0.out; omega) 2 _
          clear HQ1 HQz HBq u2 uf ul i3 df p1
          generalize wr.setCell ⟨D1, 2, none⟩ (.string (s.extract d f)) = W2 at *
          generalize s.extract d f = v at *
          refine (HL.out _).mono ?_
          rintro e w3 ⟨rfl, h3⟩
          have HQ3 : Hid (Rq w3 D1 n O v) := HQ2.out.below h3 HQ2.out.lt
          have HZ3 : Hid (Rq w3 w.heap.size ⟨#[]⟩ 0 ⟨#[]⟩) := HZ2.out.below h3 HZ2.out.lt
          have HB3 : Hid (Below w.heap.size w w3) := HB2.out.trans (h3.mono HB2.out.size)
          clear h3 HQ2 HZ2 HB2 HL W2
          have hD := HZ3.out.lt
          have f0 := HZ3.out.f 0
          have f1 := HZ3.out.f 1
          have f2 := HZ3.out.f 2
          have q0 := HZ3.out.c0
          have q1 := HZ3.out.c1
          have q2 := HZ3.out.c2
          cases hok : okS v
          · have HE : Hid (R = noR 200 d) := by show _ = _; rw [HR8.out, if_pos hok]
            clear HR8 hok
            go_wp2
            have Z : Hid (Rq ((((w3).setCell ⟨w.heap.size, 0, none⟩ (.string ⟨#[]⟩)).setCell ⟨w.heap.size, 1, none⟩ (.int .i64 0)).setCell ⟨w.heap.size, 2, none⟩ (.string ⟨#[]⟩)) w.heap.size ⟨#[]⟩ 0 ⟨#[]⟩) := ((HZ3.out.s0 ⟨#[]⟩).s1 0).s2 ⟨#[]⟩
            have ZB : Hid (Below w.heap.size w ((((w3).setCell ⟨w.heap.size, 0, none⟩ (.string ⟨#[]⟩)).setCell ⟨w.heap.size, 1, none⟩ (.int .i64 0)).setCell ⟨w.heap.size, 2, none⟩ (.string ⟨#[]⟩))) := belowQ (belowQ (belowQ HB3.out (Nat.le_refl _) 0 _) (Nat.le_refl _) 1 _) (Nat.le_refl _) 2 _
            generalize ((((w3).setCell ⟨w.heap.size, 0, none⟩ (.string ⟨#[]⟩)).setCell ⟨w.heap.size, 1, none⟩ (.int .i64 0)).setCell ⟨w.heap.size, 2, none⟩ (.string ⟨#[]⟩)) = Wz at *
            refine bodyPost_ret (ret_rq rfl rfl Z.out) rfl ?_
            exact ⟨by rw [HE.out]; rfl, ZB.out⟩
          have HR9 : Hid (R = onD s n O v (runF gapZ s.data.toList f)) := by show _ = _; rw [HR8.out, if_neg (by rw [hok]; simp)]
          obtain ⟨hfg, hgs⟩ := HRl.out gapZ f hfs
          have HBg : Hid (∀ V, Calls Tryd.prog 45 #[.string s, .int .i64 f] V fun e w' => e = .returned (.int .i64 (runF gapZ s.data.toList f)) ∧ w' = V) := HBeh.out f hfs
          clear HR8 hok
          generalize runF gapZ s.data.toList f = g at *
          go_wp2_with fail
          refine (HBg.out _).mono ?_
          rintro e w9 ⟨rfl, h9⟩
          have h9s := h9.symm; clear h9; subst h9s
          clear HBg
          by_cases hgl : g < s.size
          · have hat := atB_in hgl
            obtain ⟨z, hz⟩ : ∃ z : Int, z = (((s[g]'hgl).toNat : Nat) : Int) := ⟨_, rfl⟩
            have hzz : (((s[g]'hgl).toNat : Nat) : Int) = z := hz.symm
            rw [← hz] at hat
            clear hz
            have hge : ((g : Int) == (s.size : Int)) = false := by simp; omega
            by_cases hz : z = 41
            · subst hz
              have HE : Hid (R = ⟨n, O, v, 0, runF gapZ s.data.toList (g + 1)⟩) := by show _ = _; rw [HR9.out, onD, if_pos hat]
              have hc1 : ((g + 1 : Nat) : Int) = (g : Int) + 1 := by omega
              have HBh0 := HBeh.out (g + 1) (by omega)
              rw [hc1] at HBh0
              have HBh : Hid (∀ V, Calls Tryd.prog 45 #[.string s, .int .i64 ((g : Int) + 1)] V fun e w' => e = .returned (.int .i64 (runF gapZ s.data.toList (g + 1))) ∧ w' = V) := HBh0
              have hw1 : IntKind.i64.wrap ((g : Int) + 1) = (g : Int) + 1 := by rw [IntKind.wrap_i64]; omega
              have hz1 : ((41 : Int) != 41) = false := rfl
              have p0 := HQ3.out.c0
              have p1 := HQ3.out.c1
              have p2 := HQ3.out.c2
              clear HR9 hat HBh0 hc1
              generalize runF gapZ s.data.toList (g + 1) = x at *
              go_wp2_with fail
              have HZf : Hid (Rq (((w3.setCell ⟨w.heap.size, 0, none⟩ (.string n)).setCell ⟨w.heap.size, 1, none⟩ (.int .i64 O)).setCell ⟨w.heap.size, 2, none⟩ (.string v)) w.heap.size n O v) := ((HZ3.out.s0 n).s1 O).s2 v
              have HBf : Hid (Below w.heap.size w (((w3.setCell ⟨w.heap.size, 0, none⟩ (.string n)).setCell ⟨w.heap.size, 1, none⟩ (.int .i64 O)).setCell ⟨w.heap.size, 2, none⟩ (.string v))) := belowQ (belowQ (belowQ HB3.out (Nat.le_refl _) 0 _) (Nat.le_refl _) 1 _) (Nat.le_refl _) 2 _
              go_cut [5, 6] from 106 to 110 (fun p q wx => p = .int .i64 0 ∧ q = .int .i64 x ∧ Rq wx w.heap.size n O v ∧ Below w.heap.size w wx)
              case first =>
                go_region_law (go_wp2_with (go_at_call 45; refine (HBh.out _).mono ?_; rintro e w8 ⟨rfl, h8⟩; have h8s := h8.symm; clear h8; subst h8s))
                all_goals
                  go_wp2_with fail
                  go_meet
                  exact ⟨rfl, rfl, HZf.out, HBf.out.drew⟩
              case rest =>
                obtain ⟨rfl, rfl, Z, ZB⟩ := hcut
                go_wp2
                refine bodyPost_ret (ret_rq rfl rfl Z) rfl ?_
                exact ⟨by rw [HE.out]; rfl, ZB⟩
            · have hz1 : (z != 41) = true := by simpa using hz
              have hz2 : (z == 41) = false := by simpa using hz
              have HE : Hid (R = noR 220 g) := by show _ = _; rw [HR9.out, onD, if_neg (by rw [hat]; exact hz)]
              clear HR9 hat hz
              go_wp2
              have Z : Hid (Rq ((((w3).setCell ⟨w.heap.size, 0, none⟩ (.string ⟨#[]⟩)).setCell ⟨w.heap.size, 1, none⟩ (.int .i64 0)).setCell ⟨w.heap.size, 2, none⟩ (.string ⟨#[]⟩)) w.heap.size ⟨#[]⟩ 0 ⟨#[]⟩) := ((HZ3.out.s0 ⟨#[]⟩).s1 0).s2 ⟨#[]⟩
              have ZB : Hid (Below w.heap.size w ((((w3).setCell ⟨w.heap.size, 0, none⟩ (.string ⟨#[]⟩)).setCell ⟨w.heap.size, 1, none⟩ (.int .i64 0)).setCell ⟨w.heap.size, 2, none⟩ (.string ⟨#[]⟩))) := belowQ (belowQ (belowQ HB3.out (Nat.le_refl _) 0 _) (Nat.le_refl _) 1 _) (Nat.le_refl _) 2 _
              generalize ((((w3).setCell ⟨w.heap.size, 0, none⟩ (.string ⟨#[]⟩)).setCell ⟨w.heap.size, 1, none⟩ (.int .i64 0)).setCell ⟨w.heap.size, 2, none⟩ (.string ⟨#[]⟩)) = Wz at *
              refine bodyPost_ret (ret_rq rfl rfl Z.out) rfl ?_
              exact ⟨by rw [HE.out]; rfl, ZB.out⟩
          · have hge : g = s.size := by omega
            have HE : Hid (R = noR 220 g) := by show _ = _; rw [HR9.out, onD, atB_out hgl, if_neg (by decide)]
            subst hge
            have hge2 : ((s.size : Int) == (s.size : Int)) = true := by simp
            clear HR9
            go_wp2
            have Z : Hid (Rq ((((w3).setCell ⟨w.heap.size, 0, none⟩ (.string ⟨#[]⟩)).setCell ⟨w.heap.size, 1, none⟩ (.int .i64 0)).setCell ⟨w.heap.size, 2, none⟩ (.string ⟨#[]⟩)) w.heap.size ⟨#[]⟩ 0 ⟨#[]⟩) := ((HZ3.out.s0 ⟨#[]⟩).s1 0).s2 ⟨#[]⟩
            have ZB : Hid (Below w.heap.size w ((((w3).setCell ⟨w.heap.size, 0, none⟩ (.string ⟨#[]⟩)).setCell ⟨w.heap.size, 1, none⟩ (.int .i64 0)).setCell ⟨w.heap.size, 2, none⟩ (.string ⟨#[]⟩))) := belowQ (belowQ (belowQ HB3.out (Nat.le_refl _) 0 _) (Nat.le_refl _) 1 _) (Nat.le_refl _) 2 _
            generalize ((((w3).setCell ⟨w.heap.size, 0, none⟩ (.string ⟨#[]⟩)).setCell ⟨w.heap.size, 1, none⟩ (.int .i64 0)).setCell ⟨w.heap.size, 2, none⟩ (.string ⟨#[]⟩)) = Wz at *
            refine bodyPost_ret (ret_rq rfl rfl Z.out) rfl ?_
            exact ⟨by rw [HE.out]; rfl, ZB.out⟩
    · have hz1 : (z != 40) = true := by simpa using hz
      have hz2 : (z == 40) = false := by simpa using hz
      have HE : Hid (R = ⟨n, 0, ⟨#[]⟩, 0, a⟩) := by show _ = _; rw [HR3.out, onA, hat, if_neg hz]
      clear HR3 hat hz
      have p0 := HQb.out.c0
      have p1 := HQb.out.c1
      have p2 := HQb.out.c2
      go_wp2
      have Z : Hid (Rq ((((W1).setCell ⟨w.heap.size, 0, none⟩ (.string n)).setCell ⟨w.heap.size, 1, none⟩ (.int .i64 0)).setCell ⟨w.heap.size, 2, none⟩ (.string ⟨#[]⟩)) w.heap.size n 0 ⟨#[]⟩) := ((HQ0.out.s0 n).s1 0).s2 ⟨#[]⟩
      have ZB : Hid (Below w.heap.size w ((((W1).setCell ⟨w.heap.size, 0, none⟩ (.string n)).setCell ⟨w.heap.size, 1, none⟩ (.int .i64 0)).setCell ⟨w.heap.size, 2, none⟩ (.string ⟨#[]⟩))) := belowQ (belowQ (belowQ HBb.out (Nat.le_refl _) 0 _) (Nat.le_refl _) 1 _) (Nat.le_refl _) 2 _
      generalize ((((W1).setCell ⟨w.heap.size, 0, none⟩ (.string n)).setCell ⟨w.heap.size, 1, none⟩ (.int .i64 0)).setCell ⟨w.heap.size, 2, none⟩ (.string ⟨#[]⟩)) = Wz at *
      refine bodyPost_ret (ret_rq rfl rfl Z.out) rfl ?_
      exact ⟨by rw [HE.out]; rfl, ZB.out⟩
  · have hae : ((a : Int) == (s.size : Int)) = true := by simp; omega
    have hae2 : a = s.size := by omega
    subst hae2
    have HE : Hid (R = ⟨n, 0, ⟨#[]⟩, 0, s.size⟩) := by show _ = _; rw [HR3.out, onA, atB_out hlt, if_neg (by decide)]
    clear HR3
    have p0 := HQb.out.c0
    have p1 := HQb.out.c1
    have p2 := HQb.out.c2
    go_wp2
    have Z : Hid (Rq ((((W1).setCell ⟨w.heap.size, 0, none⟩ (.string n)).setCell ⟨w.heap.size, 1, none⟩ (.int .i64 0)).setCell ⟨w.heap.size, 2, none⟩ (.string ⟨#[]⟩)) w.heap.size n 0 ⟨#[]⟩) := ((HQ0.out.s0 n).s1 0).s2 ⟨#[]⟩
    have ZB : Hid (Below w.heap.size w ((((W1).setCell ⟨w.heap.size, 0, none⟩ (.string n)).setCell ⟨w.heap.size, 1, none⟩ (.int .i64 0)).setCell ⟨w.heap.size, 2, none⟩ (.string ⟨#[]⟩))) := belowQ (belowQ (belowQ HBb.out (Nat.le_refl _) 0 _) (Nat.le_refl _) 1 _) (Nat.le_refl _) 2 _
    generalize ((((W1).setCell ⟨w.heap.size, 0, none⟩ (.string n)).setCell ⟨w.heap.size, 1, none⟩ (.int .i64 0)).setCell ⟨w.heap.size, 2, none⟩ (.string ⟨#[]⟩)) = Wz at *
    refine bodyPost_ret (ret_rq rfl rfl Z.out) rfl ?_
    exact ⟨by rw [HE.out]; rfl, ZB.out⟩
end Go.Proofs.YtmanjignognplaaDoor
