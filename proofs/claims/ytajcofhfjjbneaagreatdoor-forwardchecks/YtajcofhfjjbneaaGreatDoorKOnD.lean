/-
  rup: clashes, its lines.
  KEEP: set on app at below new trans refl start ap kept rd rds mono lt add none own nil put len pos setF setV putL putR other neV same_any from call
-/
import Derived.Test.YtajcofhfjjbneaaGreatDoorKOnC
import Derived.Test.YtajcofhfjjbneaaGreatDoorKOnR
set_option linter.unusedSimpArgs false
set_option linter.unusedVariables false
namespace Go.Proofs.YtajcofhfjjbneaaGreatDoor
open Go Go.RowKit

/-- what clashes leaves -/
def Cl8 (w0 w w' : World) (b : Nat) (s : Sy) (n : Nat) (css : List (List Int)) (K : List Int) : Prop := ∃ s', Ow w0 w' b s' n css K [] [] ∧ s'.C = s.C ∧ Mo w (s.own b) w' (s'.own b)
theorem Ck.fin {w0 w W : World} {b : Nat} {s0 s : Sy} {n : Nat} {css : List (List Int)} {K : List Int} {y : Bool} (h : Ck w0 w W b s0 s n css K [] [] y) : Cl8 w0 w W b s0 n css K := ⟨s, h.ow, h.C, h.mo⟩
set_option maxRecDepth 100000 in
set_option maxHeartbeats 3200000 in
theorem oClashes_any (w0 : World) (b : Nat) (s : Sy) (n : Nat) (css : List (List Int)) (K : List Int) (vd : Value) (d : List Int) (q : Int) (w : World) (h : Ow w0 w b s n css K [] []) (hr : Rds w0 s.C css) (hd : Rd w0 vd d) (hdc : d ∈ css) (hc : Con K) (hcalm : Calm css K) :
    Calls Tryz.prog 86 #[.pointer (some ⟨b, 0, none⟩), vd, .int .i64 q] w fun e w' => e = .returned (.bool (claB css (K ++ Gs d q))) ∧ Cl8 w0 w w' b s n css K := by
  have hmf : ∀ (fn : Fn) (first cap : Array Value) (w : World), (Instr.makeFunc fn first cap).run Tryz.prog w = .ok (.func fn first cap) w := fun _ _ _ _ => rfl
  have HS : Hid (Cm w0 w ((w.alloc (.cells #[.pointer (some ⟨b, 0, none⟩)] 114)).alloc (.cells #[.bool false] 4)) b s s n css K (Gs d q) [] [] 0) := ⟨Ck.start h, On.start hc hcalm, Led.nil _ _ _, by simp⟩
  have HR : Hid (Rds w0 s.C css ∧ Fit css n) := ⟨hr, h.fit⟩
  have HLt : Hid (∀ l ∈ d, fmd l = true ∧ idx l < n) := h.fit.lit _ hdc
  have hdl := h.fit.len _ hdc
  have hcn := h.fit.num
  obtain ⟨a, cv, rfl, l1, l2, hcell⟩ := hd.form
  have HC : Hid (∀ (W : World) (j : Nat), Below w0.heap.size w0 W → j < d.length → ∃ bb off, a = some ⟨bb, off, none⟩ ∧ W.cell? ⟨bb, off + j, none⟩ = some (.int .i64 (d.getD j 0))) := fun W j hW hj => by
    obtain ⟨bb, off, e, hc⟩ := hcell j hj
    exact ⟨bb, off, e, (hW.cell (p := ⟨bb, off + j, none⟩) (World.block_lt_of_cell? w0 _ hc)).trans hc⟩
  have HG : Hid (∀ x, x ∈ Gs d q ↔ -x ∈ d ∧ -x ≠ q) := fun x => mem_Gs
  clear h hr hd hdc hc hcalm hcell
  go_enter_defers Tryz.func86, Tryz.ntmps86
  go_wp2
  go_loopg [13] d.length (fun g j' wr => ∃ (j : Nat) (sv : Sy) (M : List Int) (R : List Nat), j + g = d.length ∧ j' = .int .i64 j ∧ Cm w0 w wr b s sv n css K (Gs d q) M R 0 ∧ ∀ x ∈ d.take j, x ≠ q → -x ∈ K ++ M)
  case atStart => exact ⟨0, s, [], [], by omega, rfl, HS.out, by simp⟩
  case round =>
    obtain ⟨j, sv, M, R, hj, rfl, hcm, hall⟩ := hrel
    have HJ : Hid (j + gk = d.length) := hj
    have HM : Hid (Cm w0 w wr b s sv n css K (Gs d q) M R 0 ∧ ∀ x ∈ d.take j, x ≠ q → -x ∈ K ++ M) := ⟨hcm, hall⟩
    have p0 := hcm.ck.p0
    clear hj hcm hall
    by_cases hlt : j < d.length
    · obtain ⟨bb, off, rfl, c1⟩ := HC.out wr j HM.out.1.ck.ow.bel hlt
      have hlm : d.getD j 0 ∈ d := getD_mem' (d := 0) hlt
      have hlf := HLt.out _ hlm
      have HTk : Hid (∀ x, x ∈ d.take (j + 1) ↔ x ∈ d.take j ∨ x = d.getD j 0) := fun x => mem_take_more hlt
      have HLT : Hid (j < d.length) := hlt
      generalize d.getD j 0 = l at *
      have hrl := fmd_range hlf.1
      have hwl : IntKind.i64.wrap (-l) = -l := by rw [IntKind.wrap_i64]; omega
      by_cases hq : l = q
      · have hb1 : (l != q) = false := by simp [hq]
        have HF : Hid (∀ x ∈ d.take (j + 1), x ≠ q → -x ∈ K ++ M) := fun x hx hne => ((HTk.out x).1 hx).elim (fun h2 => HM.out.2 x h2 hne) (fun e => absurd (e.trans hq) hne)
        go_wp2
        go_roundg (gk - 1)
        case measure => have := HJ.out; have := HLT.out; omega
        case rel => exact ⟨j + 1, sv, M, R, by have := HJ.out; have := HLT.out; omega, by go_num, HM.out.1, HF.out⟩
      · have hb1 : (l != q) = true := by simp [hq]
        have hlG : -l ∈ Gs d q := (HG.out (-l)).2 (by simpa using ⟨hlm, hq⟩)
        by_cases hbad : -(-l) ∈ K ++ M
        · have HCla : Hid (claB css (K ++ Gs d q) = true) := claB_of (HM.out.1.led.clash hlG hbad)
          have HB : Hid (-(-l) ∈ K ++ M) := hbad
          clear hbad hlG hlm
          go_wp2_with fail
          refine (oPut_bad w0 w wr b s sv n css K (Gs d q) M R 0 (-l) HM.out.1 (fmd_neg hlf.1) (idx_neg_lt hlf.1 HR.out.2.ev hlf.2) HB.out).mono ?_
          rintro e w1 ⟨rfl, hc1⟩
          have HC1 : Hid (Cm w0 w w1 b s sv n css K (Gs d q) M R 0) := hc1
          clear hc1
          go_wp2
          refine leaves_cons (f := 106) (args := #[.pointer (some ⟨w.heap.size, 0, none⟩), .pointer (some ⟨w.heap.size + 1, 0, none⟩)]) (by simp) (by simp [go_sem]) ?_
          refine (oCatch_pan w0 w w1 b s sv n css K M R HC1.out.ck HC1.out.ap).mono ?_
          rintro e u' w2 ⟨rfl, rfl, s', hck⟩
          have HK : Hid (Cl8 w0 w w2 b s n css K) := hck.fin
          have p1 := hck.p1
          clear hck
          simp [Leaves, settle, results, Tryz.results86, go_sem, p1]
          exact ⟨HCla.out, HK.out⟩
        · have HB : Hid (-(-l) ∉ K ++ M ∧ -l ∈ Gs d q) := ⟨hbad, hlG⟩
          clear hbad hlG hlm
          go_wp2_with fail
          refine (oPut_go w0 w wr b s sv n css K (Gs d q) M R (-l) HM.out.1 (fmd_neg hlf.1) (idx_neg_lt hlf.1 HR.out.2.ev hlf.2) HB.out.2 HB.out.1).mono ?_
          rintro e w1 ⟨rfl, s', M', R', hc1, hin, hmm⟩
          have HC1 : Hid (Cm w0 w w1 b s s' n css K (Gs d q) M' R' 0 ∧ ∀ x ∈ d.take (j + 1), x ≠ q → -x ∈ K ++ M') := ⟨hc1, fun x hx hne => ((HTk.out x).1 hx).elim (fun h2 => (List.mem_append.1 (HM.out.2 x h2 hne)).elim (fun h3 => List.mem_append.2 (.inl h3)) (fun h3 => List.mem_append.2 (.inr (hmm _ h3)))) (fun e => by rw [e]; exact hin)⟩
          clear hc1 hin hmm p0 HM
          go_wp2
          go_roundg (gk - 1)
          case measure => have := HJ.out; have := HLT.out; omega
          case rel => exact ⟨j + 1, s', M', R', by have := HJ.out; have := HLT.out; omega, by go_num, HC1.out.1, HC1.out.2⟩
    · have hje : j = d.length := by have := HJ.out; omega
      have HG2 : Hid (∀ x ∈ Gs d q, x ∈ K ++ M) := fun x hx => by
        obtain ⟨h1, h2⟩ := (HG.out x).1 hx
        have h3 := HM.out.2 (-x) (by rw [hje, List.take_length]; exact h1) h2
        simpa using h3
      have HM1 : Hid (Cm w0 w wr b s sv n css K (Gs d q) M R 0) := HM.out.1
      clear HM hje p0
      go_wp2
      generalize wr = w5 at *
      go_loopg [9] (css.length - 0) (fun g j' wx => ∃ (t : Nat) (sx : Sy) (M : List Int) (R : List Nat), g = css.length - t ∧ j' = .int .i64 (t : Int) ∧ Cm w0 w wx b s sx n css K (Gs d q) M R t ∧ t ≤ R.length ∧ ∀ x ∈ Gs d q, x ∈ K ++ M)
      case atStart => exact ⟨0, sv, M, R, rfl, rfl, HM1.out, Nat.zero_le _, HG2.out⟩
      case round =>
        obtain ⟨t, sx, M, R, rfl, rfl, hcm, htR, hG3⟩ := hrel
        have HM2 : Hid (Cm w0 w wr b s sx n css K (Gs d q) M R t ∧ ∀ x ∈ Gs d q, x ∈ K ++ M) := ⟨hcm, hG3⟩
        have p0 := hcm.ck.p0
        have p1 := hcm.ck.p1
        have f1 := hcm.ck.f1
        have hRl := hcm.on.len
        obtain ⟨F, P, hz, -⟩ := hcm.ck.ow.z
        have b6 := hz.c6
        obtain ⟨aR, cR, eR⟩ := row_form' hz.r
        have hRc : ∀ j, j < R.length → ∃ g, aR = some ⟨g, 0, none⟩ ∧ wr.cell? ⟨g, j, none⟩ = some (.int .i32 (R.getD j 0 : Int)) ∧ R.length ≤ cR := fun j hj => by
          have hrr := hz.r
          obtain ⟨g, c, e, k1, k2, k3⟩ := row_some hrr (by omega)
          rw [eR] at e
          injection e with e1 e2 e3
          refine ⟨g, e1, ?_, by omega⟩
          rw [eR, e1] at hrr
          exact row_cell hrr (by unfold i32s nats; rw [List.getElem?_map, List.getElem?_map, List.getElem?_eq_getElem hj, List.getD_eq_getElem?_getD, List.getElem?_eq_getElem hj]; rfl)
        rw [eR] at b6
        by_cases htlt : t < R.length
        · obtain ⟨g, rfl, kR, hcR⟩ := hRc t htlt
          have HTL : Hid (t < R.length) := htlt
          have hkc := (hcm.on.sub (R.getD t 0) (by rw [List.getD_eq_getElem?_getD, List.getElem?_eq_getElem htlt]; exact List.getElem_mem htlt)).1
          have HKe : Hid (R.getD t 0 = R.getD t 0) := rfl
          clear hcm hG3 hz eR hRc
          generalize hk : R.getD t 0 = k at *
          have HK0 : Hid (R.getD t 0 = k) := hk
          clear hk HKe
          generalize hRn : R.length = Rn at *
          have HRn : Hid (R.length = Rn) := hRn
          clear hRn
          by_cases hfl : ∀ m ∈ css.getD k [], -m ∈ K ++ M
          · have HCla : Hid (claB css (K ++ Gs d q) = true) := claB_of (HM2.out.1.led.fls hkc hfl)
            have HLk : Hid (∀ W, Below wr.heap.size wr W → Calls Tryz.prog 109 #[.pointer (some ⟨b, 0, none⟩), .int .i32 (k : Int)] W fun e w' => e = .panicked clashV ∧ Cm w0 w w' b s sx n css K (Gs d q) M R t) := fun W hW => oLook_fls w0 w W b s sx n css K (Gs d q) M R t k (HM2.out.1.below hW) HR.out.1 hkc hfl
            clear hfl
            go_upto_region 11 with fail
            refine look_region _ _ _ _ _ _ _ _ _ _ _ _ _ _ _ _ _ _ _ _ _ _ _ _ _ _ _ _ _ _ _ _ _ _ ⟨w.heap.size, 0, none⟩ b g t k Rn cR wr _ _ _ _ _ _ _ _ _ p0 b6 kR HTL.out (by omega) ?_
            intro W hW x34 x35 x36 x37 x38 x39 x40 x41 x42
            refine (HLk.out W hW).mono ?_
            rintro e w1 ⟨rfl, hh⟩
            have HC1 : Hid (Cm w0 w w1 b s sx n css K (Gs d q) M R t) := hh
            clear hh hW
            refine .inr ⟨_, rfl, ?_⟩
            go_wp2
            refine leaves_cons (f := 106) (args := #[.pointer (some ⟨w.heap.size, 0, none⟩), .pointer (some ⟨w.heap.size + 1, 0, none⟩)]) (by simp) (by simp [go_sem]) ?_
            refine (oCatch_pan w0 w w1 b s sx n css K M R HC1.out.ck HC1.out.ap).mono ?_
            rintro e u' w2 ⟨rfl, rfl, s', hck⟩
            have HK : Hid (Cl8 w0 w w2 b s n css K) := hck.fin
            have q1 := hck.p1
            clear hck p1
            simp [Leaves, settle, results, Tryz.results86, go_sem, q1]
            exact ⟨HCla.out, HK.out⟩
          · have HLk : Hid (∀ W, Below wr.heap.size wr W → Calls Tryz.prog 109 #[.pointer (some ⟨b, 0, none⟩), .int .i32 (k : Int)] W fun e w' => e = .returned (.tuple #[]) ∧ ∃ s' M' R', Cm w0 w w' b s s' n css K (Gs d q) M' R' (t + 1) ∧ t + 1 ≤ R'.length ∧ ∀ x ∈ M, x ∈ M') := fun W hW => oLook_go w0 w W b s sx n css K (Gs d q) M R t k (HM2.out.1.below hW) HR.out.1 (by rw [HRn.out]; exact HTL.out) HK0.out hfl
            clear hfl
            go_upto_region 11 with fail
            have HTc : Hid (t < css.length) := by have := HTL.out; show t < css.length; omega
            refine look_region _ _ _ _ _ _ _ _ _ _ _ _ _ _ _ _ _ _ _ _ _ _ _ _ _ _ _ _ _ _ _ _ _ _ ⟨w.heap.size, 0, none⟩ b g t k Rn cR wr _ _ _ _ _ _ _ _ _ p0 b6 kR HTL.out (by omega) ?_
            intro W hW x34 x35 x36 x37 x38 x39 x40 x41 x42
            refine (HLk.out W hW).mono ?_
            rintro e w1 ⟨rfl, s', M', R', hc1, ht1, hmm⟩
            have HC1 : Hid (Cm w0 w w1 b s s' n css K (Gs d q) M' R' (t + 1) ∧ t + 1 ≤ R'.length ∧ ∀ x ∈ Gs d q, x ∈ K ++ M') := ⟨hc1, ht1, fun x hx => (List.mem_append.1 (HM2.out.2 x hx)).elim (fun h3 => List.mem_append.2 (.inl h3)) (fun h3 => List.mem_append.2 (.inr (hmm _ h3)))⟩
            refine .inl ⟨_, rfl, ?_⟩
            clear hW
            clear hc1 ht1 hmm p0 p1 f1 b6 kR HM2 HLk
            go_wp2
            go_roundg (css.length - (t + 1))
            case measure => have := HTc.out; omega
            case rel => exact ⟨t + 1, s', M', R', rfl, by go_num, HC1.out.1, HC1.out.2.1, HC1.out.2.2⟩
        · have HCla : Hid (claB css (K ++ Gs d q) = false) := claB_not (hcm.on.fin (by omega) hG3)
          have HC2 : Hid (Ck w0 w (wr.setCell ⟨w.heap.size + 1, 0, none⟩ (.bool false)) b s sx n css K M R false ∧ ∀ x ∈ M, x ∉ K) := ⟨hcm.ck.set false, hcm.ap⟩
          clear hcm hG3 hz eR hRc
          generalize R.length = Rn at *
          go_wp2
          refine leaves_cons (f := 106) (args := #[.pointer (some ⟨w.heap.size, 0, none⟩), .pointer (some ⟨w.heap.size + 1, 0, none⟩)]) (by simp) (by simp [go_sem]) ?_
          refine (oCatch_ret w0 w _ b s sx n css K M R HC2.out.1 HC2.out.2).mono ?_
          rintro e u' w2 ⟨rfl, rfl, s', hck⟩
          have HK : Hid (Cl8 w0 w w2 b s n css K) := hck.fin
          have q1 := hck.p1
          clear hck p1
          simp [Leaves, settle, results, Tryz.results86, go_sem, q1]
          exact ⟨HCla.out, HK.out⟩
end Go.Proofs.YtajcofhfjjbneaaGreatDoor
