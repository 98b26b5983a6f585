/-
  The document's Write of stanzas, walked (walks/genctw.py writes it).
  KEEP: Ap put_app step_append_apk len below nil form rd mono on app start at new trans refl kept own row out grown rdz set one more lt size cell some none letL tail next step go add put del get look no yes e c f b k n m box take each block shape os tape output setCell heap alloc addr last blk drew keep done
-/
import Derived.Test.YtbeaoekbppdlmaaDoorJCtR
set_option linter.unusedSimpArgs false
set_option linter.unusedVariables false
namespace Go.Proofs.YtbeaoekbppdlmaaDoor
open Go Go.RowKit

def pieceT (r : List (List UInt8)) : List UInt8 := r.flatMap (fun p => 10 :: 32 :: p)
def hdT (p : List UInt8) : List UInt8 := if p = [] then [] else 32 :: p
/-- a field's lines -/
def fldT (f : Fld) : List UInt8 := f.1 ++ (58 :: (hdT ((pcF f.2).getD 0 []) ++ (pieceT ((pcF f.2).drop 1) ++ [10])))
def stT (fs : List Fld) : List UInt8 := fs.flatMap fldT
def wrR : Nat → List Stz → List UInt8
  | _, [] => []
  | 0, s :: r => stT s.2 ++ wrR 1 r
  | k + 1, s :: r => 10 :: (stT s.2 ++ wrR (k + 2) r)
/-- the stanzas' text -/
def wrtF (l : List Stz) : List UInt8 := wrR 0 l
def wrAns (l : List Stz) : Value := if fmdL l then .tuple #[.string ⟨(wrtF l).toArray⟩, .int .i64 0] else .tuple #[.string ⟨#[]⟩, .int .i64 1]
theorem wrR_cons (k : Nat) (s : Stz) (r : List Stz) : wrR k (s :: r) = (if k = 0 then [] else [10]) ++ (stT s.2 ++ wrR (k + 1) r) := by cases k <;> rfl
theorem pre_le {x y T : List UInt8} (h : x ++ y = T) : x.length + y.length = T.length := by rw [← h]; simp
theorem stT_drop {fs : List Fld} {q : Nat} (h : q < fs.length) : stT (fs.drop q) = fldT (fs.getD q ([], [])) ++ stT (fs.drop (q + 1)) := by
  unfold stT; rw [getD_drop h]; rfl
theorem pieceT_drop {ps : List (List UInt8)} {m : Nat} (h : m < ps.length) : pieceT (ps.drop m) = 10 :: 32 :: (ps.getD m [] ++ pieceT (ps.drop (m + 1))) := by
  unfold pieceT; rw [pc_drop h]; simp

set_option maxHeartbeats 6400000 in
set_option maxRecDepth 100000 in
theorem rWrite21_any (v : Value) (l : List Stz) (w : World) (hr : RdSt w v l) (hsz : ∀ s ∈ l, ∀ f ∈ s.2, f.1.length ≤ 1099511627776 ∧ f.2.length ≤ 1099511627776) (htot : (wrtF l).length ≤ 1099511627776) :
    Calls Tryd.prog 12 #[v] w fun e w' => e = .returned (wrAns l) ∧ Below w.heap.size w w' := by
  have HFm : Hid (Calls Tryd.prog 13 #[v] w fun e w' => e = .returned (.bool (fmdL l)) ∧ Below w.heap.size w w') := rFormed21_any v l w hr hsz
  have hlen := hr.len
  have HR : Hid (RdSt w v l) := hr
  have HSz : Hid (∀ s ∈ l, ∀ f ∈ s.2, f.1.length ≤ 1099511627776 ∧ f.2.length ≤ 1099511627776) := hsz
  obtain ⟨a, c, rfl, hc, hm, _⟩ := hr.form
  have HA : Hid (wrAns l = if fmdL l then .tuple #[.string ⟨(wrtF l).toArray⟩, .int .i64 0] else .tuple #[.string ⟨#[]⟩, .int .i64 1]) := rfl
  have HT0 : Hid ([] ++ wrR 0 (l.drop 0) = wrtF l) := rfl
  generalize wrtF l = T at *
  generalize wrAns l = AA at *
  have HTl : Hid (T.length ≤ 1099511627776) := htot
  clear hr hsz htot
  cases hfm : fmdL l
  case false =>
    rw [hfm] at HFm HA
    have HE : Hid (AA = .tuple #[.string ⟨#[]⟩, .int .i64 1]) := HA.out
    clear HA HT0 hfm
    go_enter Tryd.func12, Tryd.ntmps12
    go_wp2_with fail
    refine HFm.out.mono ?_
    rintro e w1 ⟨rfl, be⟩
    have HB : Hid (Below w.heap.size w w1) := be
    clear be
    go_wp2
    go_returns
    rw [HE.out]
    exact ⟨rfl, HB.out⟩
  case true =>
    rw [hfm] at HFm HA
    have HE : Hid (AA = .tuple #[.string ⟨T.toArray⟩, .int .i64 0]) := HA.out
    clear HA hfm
    go_enter Tryd.func12, Tryd.ntmps12
    go_wp2_with fail
    refine HFm.out.mono ?_
    rintro e w1 ⟨rfl, be⟩
    have HB1 : Hid (Below w.heap.size w w1) := be
    clear be HFm
    go_wp2_with fail
    go_loopg [4, 5, 6, 7, 8] l.length (fun g x4 i x6 x7 x8 wr => ∃ (k : Nat) (acc : List UInt8), k + g = l.length ∧ i = .int .i64 k ∧ x4 = .string ⟨acc.toArray⟩ ∧ Hid (acc ++ wrR k (l.drop k) = T) ∧ Hid (Below w.heap.size w wr))
    case atStart => exact ⟨0, [], by omega, rfl, rfl, HT0.out, HB1.out⟩
    case round =>
      obtain ⟨k, acc, hk, rfl, rfl, HK, HB⟩ := hrel
      obtain ⟨wo, hwo⟩ : ∃ wo, wo = wr := ⟨_, rfl⟩
      subst hwo
      have HG : Hid (k + gk = l.length) := hk
      clear HT0 HB1
      by_cases hlt : k < l.length
      · obtain ⟨a', c', e', _, _, hcell⟩ := (HR.out.below HB.out).form
        have e3 : a' = a ∧ c' = c := by injection e' with q1 q2 q3; exact ⟨q1.symm, q3.symm⟩
        obtain ⟨rfl, rfl⟩ := e3
        obtain ⟨b, off, u, rfl, hb, hn, hv, hru⟩ := hcell k hlt
        have hKd : acc ++ ((if k = 0 then [] else [10]) ++ (stT (l.getD k (0, [])).2 ++ wrR (k + 1) (l.drop (k + 1)))) = T := by rw [← wrR_cons, ← stz_drop hlt]; exact HK.out
        have hfz := HSz.out _ (getD_mem' (l := l) (k := k) (d := (0, [])) hlt)
        generalize (l.getD k (0, [])).2 = fs at *
        have HFz : Hid (∀ f ∈ fs, f.1.length ≤ 1099511627776 ∧ f.2.length ≤ 1099511627776) := hfz
        have hfl := hru.len
        have HRu : Hid (RdG wo u fs) := hru
        obtain ⟨ua, uc, rfl, huc, hum, _⟩ := hru.form
        have HCv : Hid (∀ W, Below wo.heap.size wo W → W.cell? ⟨b, off + k * 2 + 1, none⟩ = some (.slice ua fs.length uc)) := fun W hW => (hW.cell (p := ⟨b, off + k * 2 + 1, none⟩) hb).trans hv
        obtain ⟨R, hR⟩ : ∃ R, R = wrR (k + 1) (l.drop (k + 1)) := ⟨_, rfl⟩
        have HRr : Hid (R = wrR (k + 1) (l.drop (k + 1))) := hR
        have hz := pre_le HK.out
        have hzT := HTl.out
        by_cases hk0 : k = 0
        · have HK2 : Hid (acc ++ (stT (fs.drop 0) ++ R) = T) := by show _ = _; rw [← hKd, hR, if_pos hk0]; rfl
          have b0 : ¬ 0 < k := by omega
          clear e' hcell hfz hru hk hn HK hKd hR hz hzT hv hk0
          go_wp2_with fail
          go_loopg [4, 6, 7, 8] fs.length (fun g x4 j x7 x8 wq => ∃ (q : Nat) (ac : List UInt8), q + g = fs.length ∧ j = .int .i64 q ∧ x4 = .string ⟨ac.toArray⟩ ∧ Hid (ac ++ (stT (fs.drop q) ++ R) = T) ∧ Hid (Below wo.heap.size wo wq))
          case atStart => exact ⟨0, acc, by omega, rfl, rfl, HK2.out, Below.refl _ _⟩
          case round =>
            obtain ⟨q, ac, hq, rfl, rfl, HQ, HBq⟩ := hrel
            obtain ⟨wi, hwi⟩ : ∃ wi, wi = wr := ⟨_, rfl⟩
            subst hwi
            have HGq : Hid (q + gk = fs.length) := hq
            clear HK2
            have hvi := HCv.out wi HBq.out
            by_cases hlq : q < fs.length
            · obtain ⟨a2, c2, e', _, _, hcell⟩ := (HRu.out.belowB HBq.out (Nat.le_refl _)).form
              have e3 : a2 = ua ∧ c2 = uc := by injection e' with q1 q2 q3; exact ⟨q1.symm, q3.symm⟩
              obtain ⟨rfl, rfl⟩ := e3
              obtain ⟨fb, fo, rfl, hfb, hn, hv2⟩ := hcell q hlq
              have hX : ac ++ (fldT (fs.getD q ([], [])) ++ (stT (fs.drop (q + 1)) ++ R)) = T := by rw [← HQ.out, stT_drop hlq]; simp
              have hfsz := HFz.out _ (getD_mem' (l := fs) (k := q) (d := ([], [])) hlq)
              unfold fldT at hX
              unfold strV at hn hv2
              generalize (fs.getD q ([], [])).1 = nm at *
              generalize (fs.getD q ([], [])).2 = vl at *
              have hP := fun W => rPieces21_any ⟨vl.toArray⟩ W (by have := hfsz.2; rw [sizeL]; omega)
              have hps := pcs_size vl []
              have HEach : Hid (∀ p ∈ pcF vl, p.length ≤ 1099511627776) := fun p hp => by have := hps.1 p hp; have := hfsz.2; simp at *; omega
              have hpl : (pcF vl).length ≤ 1099511627777 := by have := hps.2.1; have := hfsz.2; unfold pcF; omega
              have hp0 : 0 < (pcF vl).length := hps.2.2
              have hz := pre_le HQ.out
              have hzT := HTl.out
              have hcA : ∀ W, (Op.stringOp .add ⟨ac.toArray⟩ ⟨nm.toArray⟩).run Tryd.prog W = .ok (.string ⟨(ac ++ nm).toArray⟩) W := cat21 ac nm _ rfl (by have := hfsz.1; omega)
              have hcB : ∀ W, (Op.stringOp .add ⟨(ac ++ nm).toArray⟩ ⟨#[58]⟩).run Tryd.prog W = .ok (.string ⟨(ac ++ nm ++ [58]).toArray⟩) W := cat21 (ac ++ nm) [58] _ rfl (by have := hfsz.1; simp; omega)
              have hlA : ¬ 9223372036854775807 < ac.length + nm.length := by have := hfsz.1; omega
              have hlB : ¬ 9223372036854775807 < ac.length + nm.length + 1 := by have := hfsz.1; omega
              have hal : (ac ++ nm ++ [58]).length ≤ 4398046511104 := by have := hfsz.1; simp; omega
              have hX2 : (ac ++ nm ++ [58]) ++ (hdT ((pcF vl).getD 0 []) ++ (pieceT ((pcF vl).drop 1) ++ ([10] ++ (stT (fs.drop (q + 1)) ++ R)))) = T := by rw [← hX]; simp
              have HVq : Hid (∀ W, Below wi.heap.size wi W → W.cell? ⟨fb, fo + q * 2, none⟩ = some (.string ⟨nm.toArray⟩)) := fun W hW => (hW.cell (p := ⟨fb, fo + q * 2, none⟩) hfb).trans hn
              have hP2 : ∀ W, Calls Tryd.prog 30 #[.string ⟨vl.toArray⟩] W fun e w' => ∃ v, e = .returned v ∧ OwnL W.heap.size w' v (pcF vl) ∧ Below W.heap.size W w' := hP
              clear hps hP
              generalize (⟨vl.toArray⟩ : ByteArray) = VV at *
              generalize pcF vl = ps at *
              obtain ⟨R2, hR2⟩ : ∃ R2, R2 = [10] ++ (stT (fs.drop (q + 1)) ++ R) := ⟨_, rfl⟩
              rw [← hR2] at hX2
              have HR2 : Hid (R2 = [10] ++ (stT (fs.drop (q + 1)) ++ R)) := hR2
              have HPc : Hid (∀ W, Calls Tryd.prog 30 #[.string VV] W fun e w' => ∃ v, e = .returned v ∧ OwnL W.heap.size w' v ps ∧ Below W.heap.size W w') := hP2
              generalize ac ++ nm ++ [58] = at1 at *
              have HX2 : Hid (at1 ++ (hdT (ps.getD 0 []) ++ (pieceT (ps.drop 1) ++ R2)) = T) := hX2
              clear e' hcell hX hfsz HQ hq hX2 hP2 hR2 hz hzT
              have HW0 : Hid (Below wi.heap.size wi wi) := Below.refl _ _
              go_upto_region 13 with (go_at_call 30; refine (HPc.out _).mono ?_; rintro e w3 ⟨pv, rfl, ow, b3⟩)
              have HB3 : Hid (Below wo.heap.size wo w3) := HBq.out.trans (b3.mono HBq.out.size)
              have hv3 := HCv.out w3 HB3.out
              have hn3 := HVq.out w3 b3
              have HO : Hid (OwnL wi.heap.size w3 pv ps) := ow
              obtain ⟨pa, pc, rfl, hpc, hpm, hcell0⟩ := ow.form
              obtain ⟨pg, rfl, hpg, hpc0⟩ := hcell0 0 hp0
              have HX3 := HX2.out
              have hp0z := HEach.out _ (getD_mem' (l := ps) (k := 0) (d := []) hp0)
              unfold strV at hpc0
              generalize ps.getD 0 [] = p0 at *
              clear hcell0 ow b3 HX2 HPc HVq hn hv2 hvi HW0
              by_cases hp00 : p0 = []
              · have HK3 : Hid (at1 ++ (pieceT (ps.drop 1) ++ R2) = T) := by show _ = _; rw [← HX3, hp00]; rfl
                have hb0 : ¬ 0 < p0.length := by rw [hp00]; simp
                clear HX3 hp00
                go_wp2_with fail
                go_loopg [4, 8] (ps.length - 1) (fun g x4 j wt => ∃ (m : Nat) (ad : List UInt8), m + g = ps.length ∧ j = .int .i64 m ∧ x4 = .string ⟨ad.toArray⟩ ∧ Hid (ad ++ (pieceT (ps.drop m) ++ R2) = T) ∧ Hid (Below w3.heap.size w3 wt))
                case atStart => exact ⟨1, at1, by omega, rfl, rfl, HK3.out, Below.refl _ _⟩
                case round =>
                  obtain ⟨m, ad, hm3, rfl, rfl, HM, HBm⟩ := hrel
                  obtain ⟨wj, hwj⟩ : ∃ wj, wj = wr := ⟨_, rfl⟩
                  subst hwj
                  have HGm : Hid (m + gk = ps.length) := hm3
                  clear HK3
                  by_cases hlm : m < ps.length
                  · obtain ⟨a5, c5, e', _, _, hcell⟩ := (HO.out.below HBm.out).form
                    have e3 : a5 = some ⟨pg, 0, none⟩ ∧ c5 = pc := by injection e' with q1 q2 q3; exact ⟨q1.symm, q3.symm⟩
                    obtain ⟨rfl, rfl⟩ := e3
                    obtain ⟨pg2, e6, hgl, hcl⟩ := hcell m hlm
                    have e7 : pg = pg2 := by simpa using e6
                    subst e7
                    have hX : (ad ++ [10, 32] ++ ps.getD m []) ++ (pieceT (ps.drop (m + 1)) ++ R2) = T := by rw [← HM.out, pieceT_drop hlm]; simp
                    have hpz := HEach.out _ (getD_mem' (l := ps) (k := m) (d := []) hlm)
                    generalize ps.getD m [] = p at *
                    have HX : Hid ((ad ++ [10, 32] ++ p) ++ (pieceT (ps.drop (m + 1)) ++ R2) = T) := hX
                    have hz := pre_le HM.out
                    have hzT := HTl.out
                    have hcA : ∀ W, (Op.stringOp .add ⟨ad.toArray⟩ ⟨#[10, 32]⟩).run Tryd.prog W = .ok (.string ⟨(ad ++ [10, 32]).toArray⟩) W := cat21 ad [10, 32] _ rfl (by simp; omega)
                    have hcB : ∀ W, (Op.stringOp .add ⟨(ad ++ [10, 32]).toArray⟩ ⟨p.toArray⟩).run Tryd.prog W = .ok (.string ⟨(ad ++ [10, 32] ++ p).toArray⟩) W := cat21 (ad ++ [10, 32]) p _ rfl (by simp; omega)
                    have hlE : ¬ 9223372036854775807 < ad.length + 2 := by omega
                    have hlF : ¬ 9223372036854775807 < ad.length + 2 + p.length := by omega
                    unfold strV at hcl
                    clear e' e6 hcell hX hpz hz hzT HM hm3
                    generalize ad ++ [10, 32] ++ p = ae at *
                    go_wp2_with fail
                    go_roundg (ps.length - (m + 1))
                    case measure => have := HGm.out; omega
                    case rel => exact ⟨m + 1, ae, by have := HGm.out; omega, by go_num, rfl, HX.out, HBm.out⟩
                  · have hX : (ad ++ [10]) ++ (stT (fs.drop (q + 1)) ++ R) = T := by
                      have hdr : ps.drop m = [] := List.drop_eq_nil_of_le (by omega)
                      rw [← HM.out, hdr, HR2.out]; simp [pieceT]
                    have HX : Hid ((ad ++ [10]) ++ (stT (fs.drop (q + 1)) ++ R) = T) := hX
                    have hz := pre_le HM.out
                    have hzT := HTl.out
                    have hcA : ∀ W, (Op.stringOp .add ⟨ad.toArray⟩ ⟨#[10]⟩).run Tryd.prog W = .ok (.string ⟨(ad ++ [10]).toArray⟩) W := cat21 ad [10] _ rfl (by simp; omega)
                    have hlE : ¬ 9223372036854775807 < ad.length + 1 := by omega
                    have HB9 : Hid (Below wo.heap.size wo wj) := HB3.out.trans (HBm.out.mono HB3.out.size)
                    clear hX hz hzT HM hm3
                    generalize ad ++ [10] = ae at *
                    go_wp2_with fail
                    go_roundg (fs.length - (q + 1))
                    case measure => have := HGq.out; omega
                    case rel => exact ⟨q + 1, ae, by have := HGq.out; omega, by go_num, rfl, HX.out, HB9.out⟩

              · have HK3 : Hid ((at1 ++ [32] ++ p0) ++ (pieceT (ps.drop 1) ++ R2) = T) := by show _ = _; rw [← HX3, hdT, if_neg hp00]; simp
                have hb0 : 0 < p0.length := by cases p0; exact absurd rfl hp00; simp
                have hlC : ¬ 9223372036854775807 < at1.length + 1 := by omega
                have hlD : ¬ 9223372036854775807 < at1.length + 1 + p0.length := by omega
                have hcC : ∀ W, (Op.stringOp .add ⟨at1.toArray⟩ ⟨#[32]⟩).run Tryd.prog W = .ok (.string ⟨(at1 ++ [32]).toArray⟩) W := cat21 at1 [32] _ rfl (by simp; omega)
                have hcD : ∀ W, (Op.stringOp .add ⟨(at1 ++ [32]).toArray⟩ ⟨p0.toArray⟩).run Tryd.prog W = .ok (.string ⟨(at1 ++ [32] ++ p0).toArray⟩) W := cat21 (at1 ++ [32]) p0 _ rfl (by simp; omega)
                clear HX3 hp00
                generalize at1 ++ [32] ++ p0 = at2 at *
                go_wp2_with fail
                go_loopg [4, 8] (ps.length - 1) (fun g x4 j wt => ∃ (m : Nat) (ad : List UInt8), m + g = ps.length ∧ j = .int .i64 m ∧ x4 = .string ⟨ad.toArray⟩ ∧ Hid (ad ++ (pieceT (ps.drop m) ++ R2) = T) ∧ Hid (Below w3.heap.size w3 wt))
                case atStart => exact ⟨1, at2, by omega, rfl, rfl, HK3.out, Below.refl _ _⟩
                case round =>
                  obtain ⟨m, ad, hm3, rfl, rfl, HM, HBm⟩ := hrel
                  obtain ⟨wj, hwj⟩ : ∃ wj, wj = wr := ⟨_, rfl⟩
                  subst hwj
                  have HGm : Hid (m + gk = ps.length) := hm3
                  clear HK3
                  by_cases hlm : m < ps.length
                  · obtain ⟨a5, c5, e', _, _, hcell⟩ := (HO.out.below HBm.out).form
                    have e3 : a5 = some ⟨pg, 0, none⟩ ∧ c5 = pc := by injection e' with q1 q2 q3; exact ⟨q1.symm, q3.symm⟩
                    obtain ⟨rfl, rfl⟩ := e3
                    obtain ⟨pg2, e6, hgl, hcl⟩ := hcell m hlm
                    have e7 : pg = pg2 := by simpa using e6
                    subst e7
                    have hX : (ad ++ [10, 32] ++ ps.getD m []) ++ (pieceT (ps.drop (m + 1)) ++ R2) = T := by rw [← HM.out, pieceT_drop hlm]; simp
                    have hpz := HEach.out _ (getD_mem' (l := ps) (k := m) (d := []) hlm)
                    generalize ps.getD m [] = p at *
                    have HX : Hid ((ad ++ [10, 32] ++ p) ++ (pieceT (ps.drop (m + 1)) ++ R2) = T) := hX
                    have hz := pre_le HM.out
                    have hzT := HTl.out
                    have hcA : ∀ W, (Op.stringOp .add ⟨ad.toArray⟩ ⟨#[10, 32]⟩).run Tryd.prog W = .ok (.string ⟨(ad ++ [10, 32]).toArray⟩) W := cat21 ad [10, 32] _ rfl (by simp; omega)
                    have hcB : ∀ W, (Op.stringOp .add ⟨(ad ++ [10, 32]).toArray⟩ ⟨p.toArray⟩).run Tryd.prog W = .ok (.string ⟨(ad ++ [10, 32] ++ p).toArray⟩) W := cat21 (ad ++ [10, 32]) p _ rfl (by simp; omega)
                    have hlE : ¬ 9223372036854775807 < ad.length + 2 := by omega
                    have hlF : ¬ 9223372036854775807 < ad.length + 2 + p.length := by omega
                    unfold strV at hcl
                    clear e' e6 hcell hX hpz hz hzT HM hm3
                    generalize ad ++ [10, 32] ++ p = ae at *
                    go_wp2_with fail
                    go_roundg (ps.length - (m + 1))
                    case measure => have := HGm.out; omega
                    case rel => exact ⟨m + 1, ae, by have := HGm.out; omega, by go_num, rfl, HX.out, HBm.out⟩
                  · have hX : (ad ++ [10]) ++ (stT (fs.drop (q + 1)) ++ R) = T := by
                      have hdr : ps.drop m = [] := List.drop_eq_nil_of_le (by omega)
                      rw [← HM.out, hdr, HR2.out]; simp [pieceT]
                    have HX : Hid ((ad ++ [10]) ++ (stT (fs.drop (q + 1)) ++ R) = T) := hX
                    have hz := pre_le HM.out
                    have hzT := HTl.out
                    have hcA : ∀ W, (Op.stringOp .add ⟨ad.toArray⟩ ⟨#[10]⟩).run Tryd.prog W = .ok (.string ⟨(ad ++ [10]).toArray⟩) W := cat21 ad [10] _ rfl (by simp; omega)
                    have hlE : ¬ 9223372036854775807 < ad.length + 1 := by omega
                    have HB9 : Hid (Below wo.heap.size wo wj) := HB3.out.trans (HBm.out.mono HB3.out.size)
                    clear hX hz hzT HM hm3
                    generalize ad ++ [10] = ae at *
                    go_wp2_with fail
                    go_roundg (fs.length - (q + 1))
                    case measure => have := HGq.out; omega
                    case rel => exact ⟨q + 1, ae, by have := HGq.out; omega, by go_num, rfl, HX.out, HB9.out⟩

            · have HE : Hid (ac ++ R = T) := by show _ = _; rw [← HQ.out, List.drop_eq_nil_of_le (by omega)]; rfl
              have HB2 : Hid (Below w.heap.size w wi) := HB.out.trans (HBq.out.mono HB.out.size)
              clear HQ hq
              go_wp2
              go_roundg (l.length - (k + 1))
              case measure => have := HG.out; omega
              case rel => exact ⟨k + 1, ac, by have := HG.out; omega, by go_num, rfl, by show _ = _; rw [← HRr.out]; exact HE.out, HB2.out⟩

        · have HK2 : Hid ((acc ++ [10]) ++ (stT (fs.drop 0) ++ R) = T) := by show _ = _; rw [← hKd, hR, if_neg hk0]; simp
          have b0 : 0 < k := by omega
          have hl0 : ¬ 9223372036854775807 < acc.length + 1 := by omega
          have hc0 : ∀ W, (Op.stringOp .add ⟨acc.toArray⟩ ⟨#[10]⟩).run Tryd.prog W = .ok (.string ⟨(acc ++ [10]).toArray⟩) W := cat21 acc [10] _ rfl (by simp; omega)
          clear e' hcell hfz hru hk hn HK hKd hR hz hzT hv hk0
          generalize acc ++ [10] = ac1 at *
          go_wp2_with fail
          go_loopg [4, 6, 7, 8] fs.length (fun g x4 j x7 x8 wq => ∃ (q : Nat) (ac : List UInt8), q + g = fs.length ∧ j = .int .i64 q ∧ x4 = .string ⟨ac.toArray⟩ ∧ Hid (ac ++ (stT (fs.drop q) ++ R) = T) ∧ Hid (Below wo.heap.size wo wq))
          case atStart => exact ⟨0, ac1, by omega, rfl, rfl, HK2.out, Below.refl _ _⟩
          case round =>
            obtain ⟨q, ac, hq, rfl, rfl, HQ, HBq⟩ := hrel
            obtain ⟨wi, hwi⟩ : ∃ wi, wi = wr := ⟨_, rfl⟩
            subst hwi
            have HGq : Hid (q + gk = fs.length) := hq
            clear HK2
            have hvi := HCv.out wi HBq.out
            by_cases hlq : q < fs.length
            · obtain ⟨a2, c2, e', _, _, hcell⟩ := (HRu.out.belowB HBq.out (Nat.le_refl _)).form
              have e3 : a2 = ua ∧ c2 = uc := by injection e' with q1 q2 q3; exact ⟨q1.symm, q3.symm⟩
              obtain ⟨rfl, rfl⟩ := e3
              obtain ⟨fb, fo, rfl, hfb, hn, hv2⟩ := hcell q hlq
              have hX : ac ++ (fldT (fs.getD q ([], [])) ++ (stT (fs.drop (q + 1)) ++ R)) = T := by rw [← HQ.out, stT_drop hlq]; simp
              have hfsz := HFz.out _ (getD_mem' (l := fs) (k := q) (d := ([], [])) hlq)
              unfold fldT at hX
              unfold strV at hn hv2
              generalize (fs.getD q ([], [])).1 = nm at *
              generalize (fs.getD q ([], [])).2 = vl at *
              have hP := fun W => rPieces21_any ⟨vl.toArray⟩ W (by have := hfsz.2; rw [sizeL]; omega)
              have hps := pcs_size vl []
              have HEach : Hid (∀ p ∈ pcF vl, p.length ≤ 1099511627776) := fun p hp => by have := hps.1 p hp; have := hfsz.2; simp at *; omega
              have hpl : (pcF vl).length ≤ 1099511627777 := by have := hps.2.1; have := hfsz.2; unfold pcF; omega
              have hp0 : 0 < (pcF vl).length := hps.2.2
              have hz := pre_le HQ.out
              have hzT := HTl.out
              have hcA : ∀ W, (Op.stringOp .add ⟨ac.toArray⟩ ⟨nm.toArray⟩).run Tryd.prog W = .ok (.string ⟨(ac ++ nm).toArray⟩) W := cat21 ac nm _ rfl (by have := hfsz.1; omega)
              have hcB : ∀ W, (Op.stringOp .add ⟨(ac ++ nm).toArray⟩ ⟨#[58]⟩).run Tryd.prog W = .ok (.string ⟨(ac ++ nm ++ [58]).toArray⟩) W := cat21 (ac ++ nm) [58] _ rfl (by have := hfsz.1; simp; omega)
              have hlA : ¬ 9223372036854775807 < ac.length + nm.length := by have := hfsz.1; omega
              have hlB : ¬ 9223372036854775807 < ac.length + nm.length + 1 := by have := hfsz.1; omega
              have hal : (ac ++ nm ++ [58]).length ≤ 4398046511104 := by have := hfsz.1; simp; omega
              have hX2 : (ac ++ nm ++ [58]) ++ (hdT ((pcF vl).getD 0 []) ++ (pieceT ((pcF vl).drop 1) ++ ([10] ++ (stT (fs.drop (q + 1)) ++ R)))) = T := by rw [← hX]; simp
              have HVq : Hid (∀ W, Below wi.heap.size wi W → W.cell? ⟨fb, fo + q * 2, none⟩ = some (.string ⟨nm.toArray⟩)) := fun W hW => (hW.cell (p := ⟨fb, fo + q * 2, none⟩) hfb).trans hn
              have hP2 : ∀ W, Calls Tryd.prog 30 #[.string ⟨vl.toArray⟩] W fun e w' => ∃ v, e = .returned v ∧ OwnL W.heap.size w' v (pcF vl) ∧ Below W.heap.size W w' := hP
              clear hps hP
              generalize (⟨vl.toArray⟩ : ByteArray) = VV at *
              generalize pcF vl = ps at *
              obtain ⟨R2, hR2⟩ : ∃ R2, R2 = [10] ++ (stT (fs.drop (q + 1)) ++ R) := ⟨_, rfl⟩
              rw [← hR2] at hX2
              have HR2 : Hid (R2 = [10] ++ (stT (fs.drop (q + 1)) ++ R)) := hR2
              have HPc : Hid (∀ W, Calls Tryd.prog 30 #[.string VV] W fun e w' => ∃ v, e = .returned v ∧ OwnL W.heap.size w' v ps ∧ Below W.heap.size W w') := hP2
              generalize ac ++ nm ++ [58] = at1 at *
              have HX2 : Hid (at1 ++ (hdT (ps.getD 0 []) ++ (pieceT (ps.drop 1) ++ R2)) = T) := hX2
              clear e' hcell hX hfsz HQ hq hX2 hP2 hR2 hz hzT
              have HW0 : Hid (Below wi.heap.size wi wi) := Below.refl _ _
              go_upto_region 13 with (go_at_call 30; refine (HPc.out _).mono ?_; rintro e w3 ⟨pv, rfl, ow, b3⟩)
              have HB3 : Hid (Below wo.heap.size wo w3) := HBq.out.trans (b3.mono HBq.out.size)
              have hv3 := HCv.out w3 HB3.out
              have hn3 := HVq.out w3 b3
              have HO : Hid (OwnL wi.heap.size w3 pv ps) := ow
              obtain ⟨pa, pc, rfl, hpc, hpm, hcell0⟩ := ow.form
              obtain ⟨pg, rfl, hpg, hpc0⟩ := hcell0 0 hp0
              have HX3 := HX2.out
              have hp0z := HEach.out _ (getD_mem' (l := ps) (k := 0) (d := []) hp0)
              unfold strV at hpc0
              generalize ps.getD 0 [] = p0 at *
              clear hcell0 ow b3 HX2 HPc HVq hn hv2 hvi HW0
              by_cases hp00 : p0 = []
              · have HK3 : Hid (at1 ++ (pieceT (ps.drop 1) ++ R2) = T) := by show _ = _; rw [← HX3, hp00]; rfl
                have hb0 : ¬ 0 < p0.length := by rw [hp00]; simp
                clear HX3 hp00
                go_wp2_with fail
                go_loopg [4, 8] (ps.length - 1) (fun g x4 j wt => ∃ (m : Nat) (ad : List UInt8), m + g = ps.length ∧ j = .int .i64 m ∧ x4 = .string ⟨ad.toArray⟩ ∧ Hid (ad ++ (pieceT (ps.drop m) ++ R2) = T) ∧ Hid (Below w3.heap.size w3 wt))
                case atStart => exact ⟨1, at1, by omega, rfl, rfl, HK3.out, Below.refl _ _⟩
                case round =>
                  obtain ⟨m, ad, hm3, rfl, rfl, HM, HBm⟩ := hrel
                  obtain ⟨wj, hwj⟩ : ∃ wj, wj = wr := ⟨_, rfl⟩
                  subst hwj
                  have HGm : Hid (m + gk = ps.length) := hm3
                  clear HK3
                  by_cases hlm : m < ps.length
                  · obtain ⟨a5, c5, e', _, _, hcell⟩ := (HO.out.below HBm.out).form
                    have e3 : a5 = some ⟨pg, 0, none⟩ ∧ c5 = pc := by injection e' with q1 q2 q3; exact ⟨q1.symm, q3.symm⟩
                    obtain ⟨rfl, rfl⟩ := e3
                    obtain ⟨pg2, e6, hgl, hcl⟩ := hcell m hlm
                    have e7 : pg = pg2 := by simpa using e6
                    subst e7
                    have hX : (ad ++ [10, 32] ++ ps.getD m []) ++ (pieceT (ps.drop (m + 1)) ++ R2) = T := by rw [← HM.out, pieceT_drop hlm]; simp
                    have hpz := HEach.out _ (getD_mem' (l := ps) (k := m) (d := []) hlm)
                    generalize ps.getD m [] = p at *
                    have HX : Hid ((ad ++ [10, 32] ++ p) ++ (pieceT (ps.drop (m + 1)) ++ R2) = T) := hX
                    have hz := pre_le HM.out
                    have hzT := HTl.out
                    have hcA : ∀ W, (Op.stringOp .add ⟨ad.toArray⟩ ⟨#[10, 32]⟩).run Tryd.prog W = .ok (.string ⟨(ad ++ [10, 32]).toArray⟩) W := cat21 ad [10, 32] _ rfl (by simp; omega)
                    have hcB : ∀ W, (Op.stringOp .add ⟨(ad ++ [10, 32]).toArray⟩ ⟨p.toArray⟩).run Tryd.prog W = .ok (.string ⟨(ad ++ [10, 32] ++ p).toArray⟩) W := cat21 (ad ++ [10, 32]) p _ rfl (by simp; omega)
                    have hlE : ¬ 9223372036854775807 < ad.length + 2 := by omega
                    have hlF : ¬ 9223372036854775807 < ad.length + 2 + p.length := by omega
                    unfold strV at hcl
                    clear e' e6 hcell hX hpz hz hzT HM hm3
                    generalize ad ++ [10, 32] ++ p = ae at *
                    go_wp2_with fail
                    go_roundg (ps.length - (m + 1))
                    case measure => have := HGm.out; omega
                    case rel => exact ⟨m + 1, ae, by have := HGm.out; omega, by go_num, rfl, HX.out, HBm.out⟩
                  · have hX : (ad ++ [10]) ++ (stT (fs.drop (q + 1)) ++ R) = T := by
                      have hdr : ps.drop m = [] := List.drop_eq_nil_of_le (by omega)
                      rw [← HM.out, hdr, HR2.out]; simp [pieceT]
                    have HX : Hid ((ad ++ [10]) ++ (stT (fs.drop (q + 1)) ++ R) = T) := hX
                    have hz := pre_le HM.out
                    have hzT := HTl.out
                    have hcA : ∀ W, (Op.stringOp .add ⟨ad.toArray⟩ ⟨#[10]⟩).run Tryd.prog W = .ok (.string ⟨(ad ++ [10]).toArray⟩) W := cat21 ad [10] _ rfl (by simp; omega)
                    have hlE : ¬ 9223372036854775807 < ad.length + 1 := by omega
                    have HB9 : Hid (Below wo.heap.size wo wj) := HB3.out.trans (HBm.out.mono HB3.out.size)
                    clear hX hz hzT HM hm3
                    generalize ad ++ [10] = ae at *
                    go_wp2_with fail
                    go_roundg (fs.length - (q + 1))
                    case measure => have := HGq.out; omega
                    case rel => exact ⟨q + 1, ae, by have := HGq.out; omega, by go_num, rfl, HX.out, HB9.out⟩

              · have HK3 : Hid ((at1 ++ [32] ++ p0) ++ (pieceT (ps.drop 1) ++ R2) = T) := by show _ = _; rw [← HX3, hdT, if_neg hp00]; simp
                have hb0 : 0 < p0.length := by cases p0; exact absurd rfl hp00; simp
                have hlC : ¬ 9223372036854775807 < at1.length + 1 := by omega
                have hlD : ¬ 9223372036854775807 < at1.length + 1 + p0.length := by omega
                have hcC : ∀ W, (Op.stringOp .add ⟨at1.toArray⟩ ⟨#[32]⟩).run Tryd.prog W = .ok (.string ⟨(at1 ++ [32]).toArray⟩) W := cat21 at1 [32] _ rfl (by simp; omega)
                have hcD : ∀ W, (Op.stringOp .add ⟨(at1 ++ [32]).toArray⟩ ⟨p0.toArray⟩).run Tryd.prog W = .ok (.string ⟨(at1 ++ [32] ++ p0).toArray⟩) W := cat21 (at1 ++ [32]) p0 _ rfl (by simp; omega)
                clear HX3 hp00
                generalize at1 ++ [32] ++ p0 = at2 at *
                go_wp2_with fail
                go_loopg [4, 8] (ps.length - 1) (fun g x4 j wt => ∃ (m : Nat) (ad : List UInt8), m + g = ps.length ∧ j = .int .i64 m ∧ x4 = .string ⟨ad.toArray⟩ ∧ Hid (ad ++ (pieceT (ps.drop m) ++ R2) = T) ∧ Hid (Below w3.heap.size w3 wt))
                case atStart => exact ⟨1, at2, by omega, rfl, rfl, HK3.out, Below.refl _ _⟩
                case round =>
                  obtain ⟨m, ad, hm3, rfl, rfl, HM, HBm⟩ := hrel
                  obtain ⟨wj, hwj⟩ : ∃ wj, wj = wr := ⟨_, rfl⟩
                  subst hwj
                  have HGm : Hid (m + gk = ps.length) := hm3
                  clear HK3
                  by_cases hlm : m < ps.length
                  · obtain ⟨a5, c5, e', _, _, hcell⟩ := (HO.out.below HBm.out).form
                    have e3 : a5 = some ⟨pg, 0, none⟩ ∧ c5 = pc := by injection e' with q1 q2 q3; exact ⟨q1.symm, q3.symm⟩
                    obtain ⟨rfl, rfl⟩ := e3
                    obtain ⟨pg2, e6, hgl, hcl⟩ := hcell m hlm
                    have e7 : pg = pg2 := by simpa using e6
                    subst e7
                    have hX : (ad ++ [10, 32] ++ ps.getD m []) ++ (pieceT (ps.drop (m + 1)) ++ R2) = T := by rw [← HM.out, pieceT_drop hlm]; simp
                    have hpz := HEach.out _ (getD_mem' (l := ps) (k := m) (d := []) hlm)
                    generalize ps.getD m [] = p at *
                    have HX : Hid ((ad ++ [10, 32] ++ p) ++ (pieceT (ps.drop (m + 1)) ++ R2) = T) := hX
                    have hz := pre_le HM.out
                    have hzT := HTl.out
                    have hcA : ∀ W, (Op.stringOp .add ⟨ad.toArray⟩ ⟨#[10, 32]⟩).run Tryd.prog W = .ok (.string ⟨(ad ++ [10, 32]).toArray⟩) W := cat21 ad [10, 32] _ rfl (by simp; omega)
                    have hcB : ∀ W, (Op.stringOp .add ⟨(ad ++ [10, 32]).toArray⟩ ⟨p.toArray⟩).run Tryd.prog W = .ok (.string ⟨(ad ++ [10, 32] ++ p).toArray⟩) W := cat21 (ad ++ [10, 32]) p _ rfl (by simp; omega)
                    have hlE : ¬ 9223372036854775807 < ad.length + 2 := by omega
                    have hlF : ¬ 9223372036854775807 < ad.length + 2 + p.length := by omega
                    unfold strV at hcl
                    clear e' e6 hcell hX hpz hz hzT HM hm3
                    generalize ad ++ [10, 32] ++ p = ae at *
                    go_wp2_with fail
                    go_roundg (ps.length - (m + 1))
                    case measure => have := HGm.out; omega
                    case rel => exact ⟨m + 1, ae, by have := HGm.out; omega, by go_num, rfl, HX.out, HBm.out⟩
                  · have hX : (ad ++ [10]) ++ (stT (fs.drop (q + 1)) ++ R) = T := by
                      have hdr : ps.drop m = [] := List.drop_eq_nil_of_le (by omega)
                      rw [← HM.out, hdr, HR2.out]; simp [pieceT]
                    have HX : Hid ((ad ++ [10]) ++ (stT (fs.drop (q + 1)) ++ R) = T) := hX
                    have hz := pre_le HM.out
                    have hzT := HTl.out
                    have hcA : ∀ W, (Op.stringOp .add ⟨ad.toArray⟩ ⟨#[10]⟩).run Tryd.prog W = .ok (.string ⟨(ad ++ [10]).toArray⟩) W := cat21 ad [10] _ rfl (by simp; omega)
                    have hlE : ¬ 9223372036854775807 < ad.length + 1 := by omega
                    have HB9 : Hid (Below wo.heap.size wo wj) := HB3.out.trans (HBm.out.mono HB3.out.size)
                    clear hX hz hzT HM hm3
                    generalize ad ++ [10] = ae at *
                    go_wp2_with fail
                    go_roundg (fs.length - (q + 1))
                    case measure => have := HGq.out; omega
                    case rel => exact ⟨q + 1, ae, by have := HGq.out; omega, by go_num, rfl, HX.out, HB9.out⟩

            · have HE : Hid (ac ++ R = T) := by show _ = _; rw [← HQ.out, List.drop_eq_nil_of_le (by omega)]; rfl
              have HB2 : Hid (Below w.heap.size w wi) := HB.out.trans (HBq.out.mono HB.out.size)
              clear HQ hq
              go_wp2
              go_roundg (l.length - (k + 1))
              case measure => have := HG.out; omega
              case rel => exact ⟨k + 1, ac, by have := HG.out; omega, by go_num, rfl, by show _ = _; rw [← HRr.out]; exact HE.out, HB2.out⟩
      · have HE2 : Hid (acc = T) := by show _ = _; rw [← HK.out, List.drop_eq_nil_of_le (by omega)]; simp [wrR]
        clear HK hk
        go_wp2
        go_returns
        rw [HE.out]
        exact ⟨by rw [← HE2.out]; rfl, HB.out⟩

end Go.Proofs.YtbeaoekbppdlmaaDoor
