/-
  joined: FwK FwG FwN FwO FwI FwJ FwX FwF
-/
import Derived.Test.YtjajafeaengnjaaGreatDoorJFwH
import Derived.Test.YtjajafeaengnjaaGreatDoorKAppZ
import Derived.Test.YtjajafeaengnjaaGreatDoorJUnS
set_option linter.unusedSimpArgs false
set_option linter.unusedVariables false
namespace Go.Proofs.YtjajafeaengnjaaGreatDoor
open Go Go.RowKit

/-- the clause that comes in: a row beside the closing's own -/
structure Cro (B : Nat) (W : World) (b : Nat) (s : Sf) (V : List Value) (vc : Value) (c : List Int) : Prop where
  row : W.ownsRow B 3 1 vc c.length (i64s c)
  off : ∀ k, s.own V b k → some k ≠ vc.ownBlock
theorem Cro.mo {B b : Nat} {W W' : World} {s s' : Sf} {V V' : List Value} {vc : Value} {c : List Int} (h : Cro B W b s V vc c) (hm : Mo W (s.own V b) W' (s'.own V' b)) : Cro B W' b s' V' vc c := by
  refine ⟨row_kept h.row fun k hk => hm.block k (h.row.lt k hk.symm).2 fun ho => h.off k ho hk, fun k hk e => ?_⟩
  rcases hm.new k hk with a | a
  · exact h.off k a e
  · have := (h.row.lt k e.symm).2
    omega
theorem Cro.cell {B b : Nat} {W : World} {s : Sf} {V : List Value} {vc : Value} {c : List Int} (h : Cro B W b s V vc c) {j : Nat} (hj : j < c.length) : ∃ g cap, vc = .slice (some ⟨g, 0, none⟩) c.length cap ∧ W.cell? ⟨g, j, none⟩ = some (.int .i64 (c.getD j 0)) ∧ W.frozen? ⟨g, j, none⟩ = false := by
  obtain ⟨g, cap, e, _⟩ := row_some h.row (by omega)
  have hr := h.row
  rw [e] at hr
  exact ⟨g, cap, e, row_cell hr (by unfold i64s; rw [List.getElem?_map, List.getD_eq_getElem?_getD, List.getElem?_eq_getElem hj]; rfl), row_fz hr j⟩
theorem Rs.grow {n m : Nat} {cl : Fcl} {lk : List (Nat × Nat)} {fs : List Nat} {ch : Nat → List Nat} {R : List Int} (h : Rs n cl lk fs ch R) (hm : m % 2 = 0) (hn : n + m ≤ 2097152) : Rs (n + m) cl lk (fs ++ List.replicate m 0) ch R :=
  ⟨h.wa.grow hm hn, h.rk.grow m, h.qt, h.one, h.der⟩
/-- the state of the loop -/
def MrL (B b : Nat) (s : Sf) (V : List Value) (un : List Nat) (cl : Fcl) (n : Nat) (R c : List Int) (w wx : World) (j : Nat) : Prop :=
  ∃ u y n' lk fs ch, Fwz B wx b { s with F := u, H := y } V cl un lk fs (inLs n' R) R R.length ∧ Mo w (s.own V b) wx (({ s with F := u, H := y } : Sf).own V b) ∧ Rs n' cl lk fs ch R ∧ n ≤ n' ∧ ∀ m, m < j → idx (c.getD m 0) < n'
theorem idx_var {l : Int} (h : fmd l = true) : idx l < 2 * varOf l ∧ 1 ≤ varOf l ∧ varOf l ≤ 1048576 := by
  have h0 := fmd_range h
  by_cases hs : 0 < l
  · rw [(there_pos h hs).1, (there_pos h hs).2]; omega
  · rw [(there_neg h (by omega)).1, (there_neg h (by omega)).2]; omega
section
variable {B b : Nat} {s : Sf} {V : List Value} {cl : Fcl} {un : List Nat} {R c : List Int} {n : Nat}
set_option maxRecDepth 100000 in
set_option maxHeartbeats 1600000 in
theorem fRoom_any (w : World) (vc : Value) (h : Fre B w b s V un cl n R) (hfr : Frs cl) (hc : Cro B w b s V vc c) (hs : c.all fmd = true) (hlc : c.length ≤ 2097152) (hB : B ≤ w.heap.size) :
    Calls Tryz.prog 64 #[.pointer (some ⟨b, 1, none⟩), vc] w fun e w' => e = .returned (.tuple #[]) ∧ MrL B b s V un cl n R c w w' c.length := by
  obtain ⟨lk, fs, ch, hz, hrs, _⟩ := h
  have hso : ∀ l ∈ c, fmd l = true := fun l hl => List.all_eq_true.1 hs l hl
  obtain ⟨av, cv, rfl⟩ := row_form' hc.row
  have HSt : Hid (MrL B b s V un cl n R c w w 0) := ⟨s.F, s.H, n, lk, fs, ch, hz, Mo.refl _ _, hrs, Nat.le_refl _, by omega⟩
  have HC : Hid (Cro B w b s V (.slice av c.length cv) c ∧ (∀ l ∈ c, fmd l = true) ∧ B ≤ w.heap.size) := ⟨hc, hso, hB⟩
  clear hz hrs hc hs hso hfr hB
  go_enter Tryz.func64, Tryz.ntmps64
  go_wp2_with fail
  go_loopg [9] c.length (fun g iv wx => ∃ j : Nat, j + g = c.length ∧ iv = .int .i64 (j : Int) ∧ MrL B b s V un cl n R c w wx j)
  case atStart => exact ⟨0, by omega, rfl, HSt.out⟩
  case round =>
    obtain ⟨j, hj, rfl, u, y, n', lk, fs, ch, hz, hmo, hrs, hnn, had⟩ := hrel
    have HJ : Hid (j + gk = c.length) := hj
    have HL : Hid (MrL B b s V un cl n R c w wr j) := ⟨u, y, n', lk, fs, ch, hz, hmo, hrs, hnn, had⟩
    by_cases hlt : j < c.length
    · obtain ⟨g, cap, ev, kc, _⟩ := (HC.out.1.mo hmo).cell hlt
      injection ev with e1 e2 e3
      subst e1 e3
      have hf := HC.out.2.1 _ (getD_mem0 hlt)
      obtain ⟨i1, i2, i3⟩ := idx_var hf
      obtain ⟨l, hl⟩ : ∃ l, c.getD j 0 = l := ⟨_, rfl⟩
      rw [hl] at kc i1 i2 i3 hf
      have HLe : Hid (c.getD j 0 = l) := hl
      obtain ⟨vr, hvr⟩ : ∃ vr : Nat, varOf l = vr := ⟨(varOf l).toNat, by omega⟩
      rw [hvr] at i1 i2 i3
      have HVr : Hid (∀ W : World, Calls Tryz.prog 33 #[.int .i64 l] W fun e w' => e = .returned (.int .i64 (vr : Int)) ∧ w' = W) := fun W => (var_any _ _).mono fun e w' h => ⟨by rw [h.1, hvr], h.2⟩
      have hlen : (inLs n' R).length = n' := inLs_len n' R
      have hev := hrs.wa.ev
      have hn2 := hrs.wa.hn
      have HZ : Hid (Fwz B wr b { s with F := u, H := y } V cl un lk fs (inLs n' R) R R.length ∧ Mo w (s.own V b) wr (({ s with F := u, H := y } : Sf).own V b) ∧ Rs n' cl lk fs ch R ∧ n ≤ n' ∧ ∀ m, m < j → idx (c.getD m 0) < n') := ⟨hz, hmo, hrs, hnn, had⟩
      obtain ⟨aH, cH, eH⟩ := row_form' hz.h
      have eH : y = .slice aH (inLs n' R).length cH := eH
      rw [hlen] at eH
      have k6 : wr.cell? ⟨b, 6, none⟩ = some y := hz.c6
      rw [eH] at k6
      have hw2 : wrap64 (2 * (vr : Int)) = 2 * (vr : Int) := by unfold wrap64; omega
      have hw2' : IntKind.i64.wrap (2 * (vr : Int)) = 2 * (vr : Int) := by rw [IntKind.wrap_i64]; omega
      have hw3 : wrap64 (2 * (vr : Int) - (n' : Int)) = 2 * (vr : Int) - (n' : Int) := by unfold wrap64; omega
      have hw3' : IntKind.i64.wrap (2 * (vr : Int) - (n' : Int)) = 2 * (vr : Int) - (n' : Int) := by rw [IntKind.wrap_i64]; omega
      have HI : Hid (idx l < 2 * (vr : Int) ∧ 1 ≤ vr ∧ vr ≤ 1048576 ∧ n' % 2 = 0 ∧ n' ≤ 2097152) := ⟨i1, by omega, by omega, hev, hn2⟩
      clear hz hmo hrs hnn had hl hf hvr hev hlen i1
      go_upto_region 3 with fail
      go_quiet ((go_at_call 33; exact Calls.quiet_of_same (HVr.out _)))
      have HZ3 : Hid (Fwz B (wr.drewN nq) b { s with F := u, H := y } V cl un lk fs (inLs n' R) R R.length ∧ Mo w (s.own V b) (wr.drewN nq) (({ s with F := u, H := y } : Sf).own V b)) := ⟨HZ.out.1.below (below_drewN _ _), HZ.out.2.1.trans (Mo.below (below_drewN _ _))⟩
      have d6 : (wr.drewN nq).cell? ⟨b, 6, none⟩ = some (.slice aH n' cH) := k6
      clear k6 kc HL
      have HEH : Hid (y = .slice aH n' cH) := eH
      clear eH
      generalize wr.drewN nq = w2 at *
      by_cases hge : 2 * vr ≤ n'
      · have hle : ¬ 0 < 2 * (vr : Int) - (n' : Int) := by omega
        have HF : Hid (MrL B b s V un cl n R c w w2 (j + 1)) := ⟨u, y, n', lk, fs, ch, HZ3.out.1, HZ3.out.2, HZ.out.2.2.1, HZ.out.2.2.2.1, fun m hm => by
          by_cases e : m = j
          · subst e; rw [HLe.out]; have := HI.out.1; omega
          · exact HZ.out.2.2.2.2 m (by omega)⟩
        clear hw2 hw2' hw3 hw3'
        go_wp2
        go_roundg (gk - 1)
        case measure => have := HJ.out; omega
        case rel => exact ⟨j + 1, by have := HJ.out; omega, by go_num, HF.out⟩
      · obtain ⟨m, hm⟩ : ∃ m : Nat, 2 * vr = n' + m := ⟨2 * vr - n', by omega⟩
        have hm0 : 0 < m := by omega
        have hsh : 2 * (vr : Int) - (n' : Int) = (m : Int) := by omega
        rw [hsh] at hw3 hw3' ⊢
        have HM : Hid (2 * vr = n' + m) := hm
        have hnm : n' + m ≤ 2097152 := by have := HI.out.2.2.1; omega
        have hm2 : m % 2 = 0 := by have := HI.out.2.2.2.1; omega
        obtain ⟨iB, hiB, hzB0, hzB1, hzB2⟩ := info_parts infoB6
        obtain ⟨iI, hiI, hzI0, hzI1, hzI2⟩ := info_parts infoI6
        have hBs : B ≤ w2.heap.size := Nat.le_trans HC.out.2.2 HZ3.out.2.size
        have hlen : (inLs n' R).length = n' := inLs_len n' R
        have rH : w2.ownsRow B 4 1 y n' ((inLs n' R).map Value.bool) := by have := HZ3.out.1.h; rw [hlen] at this; exact this
        rw [HEH.out] at rH
        obtain ⟨v4, w4, run4, own4, ap4⟩ := run_append_zap (P := Tryz.prog) w2 B 60 3 60 4 iB (.bool false) 1 .i64 Tryz.underlying60 Tryz.underlying3 hiB hzB0 hzB1 hzB2 rfl rfl _ _ _ rH m hm0 (by unfold maxLen; omega) (by omega) hBs
        have eLs : (inLs n' R).map Value.bool ++ List.replicate m (.bool false) = (inLs (n' + m) R).map Value.bool := by
          rw [inLs_grow HZ.out.2.2.1.rk hnm, List.map_append, List.map_replicate]
        rw [eLs] at own4
        have hlen2 : (inLs (n' + m) R).length = n' + m := inLs_len _ R
        have hput := HZ3.out.1.putH (hs' := inLs (n' + m) R) (u := v4) (W1 := w4) (by show w2.grownBy w4 y.ownBlock; rw [HEH.out]; exact ap4.grown) (by show v4.ownBlock = y.ownBlock ∨ _; rw [HEH.out]; exact ap4.new) (by rw [hlen2]; exact own4)
        have hb4 := box_other HZ3.out.1.box (W' := w4) (row := y.ownBlock) (by rw [HEH.out]; exact ap4.grown) (fun x e => row_ty HZ3.out.1.h (show some x = y.ownBlock from e.symm)) (by decide)
        have p6 : w4.cell? ⟨b, 6, none⟩ = some y := box_cell hb4 rfl
        have p6f : w4.frozen? ⟨b, 6, none⟩ = false := by simp [World.frozen?, hb4]
        obtain ⟨a4, c4, ev4⟩ := row_form' own4
        have HP : Hid (Fwz B (w4.setCell ⟨b, 6, none⟩ v4) b { s with F := u, H := v4 } V cl un lk fs (inLs (n' + m) R) R R.length ∧ Mo w2 (({ s with F := u, H := y } : Sf).own V b) (w4.setCell ⟨b, 6, none⟩ v4) (({ s with F := u, H := v4 } : Sf).own V b)) := hput
        rw [HEH.out] at p6
        have HEv : Hid (v4 = .slice a4 (n' + m) c4) := ev4
        subst ev4
        have hfl := HZ.out.2.2.1.wa.c.len
        have rF : (w4.setCell ⟨b, 6, none⟩ (.slice a4 (n' + m) c4)).ownsRow B 21 1 u fs.length (i32s (nats fs)) := HP.out.1.f
        rw [hfl] at rF
        obtain ⟨aF, cF, eF⟩ := row_form' rF
        have k5 : (w4.setCell ⟨b, 6, none⟩ (.slice a4 (n' + m) c4)).cell? ⟨b, 5, none⟩ = some u := HP.out.1.c5
        have HRun4 : Hid ((Builtin.append_ #[60, 3] 60 #[.slice aH n' cH, .int .i64 (m : Int)]).run Tryz.prog w2 = .ok (.slice a4 (n' + m) c4) w4) := run4
        have HEF : Hid (u = .slice aF n' cF) := eF
        rw [eF] at rF k5
        obtain ⟨v5, w5, run5, own5, ap5⟩ := run_append_zap (P := Tryz.prog) (w4.setCell ⟨b, 6, none⟩ (.slice a4 (n' + m) c4)) B 58 3 58 21 iI (.int .i32 0) 4 .i64 Tryz.underlying58 Tryz.underlying3 hiI hzI0 hzI1 hzI2 rfl rfl _ _ _ rF m hm0 (by unfold maxLen; omega) (by omega) (Nat.le_trans hBs HP.out.2.size)
        have eFs : i32s (nats fs) ++ List.replicate m (.int .i32 0) = i32s (nats (fs ++ List.replicate m 0)) := by unfold i32s nats; simp
        rw [eFs] at own5
        have hlen3 : (fs ++ List.replicate m 0).length = n' + m := by simp [hfl]
        have hput5 := HP.out.1.putF (fs' := fs ++ List.replicate m 0) (u := v5) (W1 := w5) (by show World.grownBy _ w5 u.ownBlock; rw [HEF.out]; exact ap5.grown) (by show v5.ownBlock = u.ownBlock ∨ _; rw [HEF.out]; exact ap5.new) (by rw [hlen3]; exact own5)
        have hb5 := box_other HP.out.1.box (W' := w5) (row := u.ownBlock) (by rw [HEF.out]; exact ap5.grown) (fun x e => row_ty HP.out.1.f (show some x = u.ownBlock from e.symm)) (by decide)
        have p5 : w5.cell? ⟨b, 5, none⟩ = some u := box_cell hb5 rfl
        have p5f : w5.frozen? ⟨b, 5, none⟩ = false := by simp [World.frozen?, hb5]
        rw [HEF.out] at p5
        obtain ⟨a5, c5, ev5⟩ := row_form' own5
        have HF : Hid (MrL B b s V un cl n R c w (w5.setCell ⟨b, 5, none⟩ v5) (j + 1)) := ⟨v5, _, n' + m, lk, fs ++ List.replicate m 0, ch, hput5.1, (HZ3.out.2.trans HP.out.2).trans hput5.2, HZ.out.2.2.1.grow hm2 hnm, by have := HZ.out.2.2.2.1; omega, fun q hq => by
          by_cases e : q = j
          · subst e; rw [HLe.out]; have := HI.out.1; have := HM.out; omega
          · have := HZ.out.2.2.2.2 q (by omega); omega⟩
        subst ev5
        have HRun5 : Hid ((Builtin.append_ #[58, 3] 58 #[.slice aF n' cF, .int .i64 (m : Int)]).run Tryz.prog (w4.setCell ⟨b, 6, none⟩ (.slice a4 (n' + m) c4)) = .ok (.slice a5 (n' + m) c5) w5) := run5
        clear run4 own4 ap4 hput hb4 run5 own5 ap5 hput5 hb5 rH rF eLs eFs hlen hlen2 hlen3 eF hfl hw2 hw2' hw3 hw3' hsh hm
        go_wp2_with (at_builtin; first | (refine Lib.wpList_append_run _ rfl _ _ _ _ rfl _ _ rfl rfl _ _ HRun4.out ?_) | (refine Lib.wpList_append_run _ rfl _ _ _ _ rfl _ _ rfl rfl _ _ HRun5.out ?_))
        go_roundg (gk - 1)
        case measure => have := HJ.out; omega
        case rel => exact ⟨j + 1, by have := HJ.out; omega, by go_num, HF.out⟩
    · obtain rfl : j = c.length := by omega
      clear hz hmo hrs hnn had hj hlt
      go_wp2
      go_end0
      exact ⟨rfl, HL.out⟩
end
end Go.Proofs.YtjajafeaengnjaaGreatDoor
set_option linter.unusedSimpArgs false
set_option linter.unusedVariables false
namespace Go.Proofs.YtjajafeaengnjaaGreatDoor
open Go Go.RowKit

/-- so far: m literals that aren't false stand ahead -/
structure Bri (R c c' : List Int) (k m : Nat) : Prop where
  pm : c'.Perm c
  two : m ≤ 2
  le : m ≤ k
  non : ∀ j, j < m → -(c'.getD j 0) ∉ R
  rst : m < 2 → ∀ j, m ≤ j → j < k → -(c'.getD j 0) ∈ R
theorem mvd_k {c : List Int} {e p : Nat} (hp : p < c.length) : (mvd c e p).getD p 0 = c.getD e 0 := by
  unfold mvd
  rw [List.getD_eq_getElem?_getD, List.getElem?_set_self (by simpa using hp)]; rfl
theorem mvd_m {c : List Int} {e p : Nat} (he : e < c.length) (hp : p < c.length) : (mvd c e p).getD e 0 = c.getD p 0 := by
  by_cases h : e = p
  · subst h; exact mvd_k hp
  · exact mvd_e he h
section
variable {R c c' : List Int} {k m : Nat}
theorem Bri.len (h : Bri R c c' k m) : c'.length = c.length := h.pm.length_eq
theorem Bri.full (h : Bri R c c' k m) (hm : m = 2) : Bri R c c' (k + 1) m := ⟨h.pm, h.two, by have := h.le; omega, h.non, by omega⟩
theorem Bri.no (h : Bri R c c' k m) (hf : -(c'.getD k 0) ∈ R) : Bri R c c' (k + 1) m := ⟨h.pm, h.two, by have := h.le; omega, h.non, fun h2 j h3 h4 => by
  by_cases e : j = k
  · subst e; exact hf
  · exact h.rst h2 j h3 (by omega)⟩
theorem Bri.yes (h : Bri R c c' k m) (hm : m < 2) (hk : k < c'.length) (hf : -(c'.getD k 0) ∉ R) : Bri R c (mvd c' m k) (k + 1) (m + 1) := by
  have hle := h.le
  refine ⟨(mvd_perm (by omega) hk).trans h.pm, by omega, by omega, fun j hj => ?_, fun h2 j h3 h4 => ?_⟩
  · by_cases e : j = m
    · subst e; rw [mvd_m (by omega) hk]; exact hf
    · rw [mvd_o e (by omega)]; exact h.non j (by omega)
  · by_cases e : j = k
    · subst e; rw [mvd_k hk]; exact h.rst hm m (Nat.le_refl _) (by omega)
    · rw [mvd_o (by omega) e]; exact h.rst hm j (by omega) (by omega)
theorem Bri.fwd (h : Bri R c c' c.length m) : Fwd R c' m := ⟨h.two, by rw [h.len]; exact h.le, h.non, fun h2 j h3 h4 => h.rst h2 j h3 (by rw [← h.len]; exact h4)⟩
end
def vown (vc : Value) (k : Nat) : Prop := some k = vc.ownBlock
section
variable {B b : Nat} {s : Sf} {V : List Value} {cl : Fcl} {un : List Nat} {lk : List (Nat × Nat)} {fs : List Nat} {R c : List Int} {td n : Nat}
def BrL (B b : Nat) (s : Sf) (V : List Value) (cl : Fcl) (un : List Nat) (lk : List (Nat × Nat)) (fs : List Nat) (n : Nat) (R c : List Int) (td : Nat) (vc : Value) (w wx : World) (k m : Nat) : Prop :=
  ∃ c', Bri R c c' k m ∧ Fwz B wx b s V cl un lk fs (inLs n R) R td ∧ Cro B wx b s V vc c' ∧ Mo w (vown vc) wx (vown vc)
theorem Fwz.beside {W : World} {hs : List Bool} (h : Fwz B W b s V cl un lk fs hs R td) {g k : Nat} (ho : ∀ q, s.own V b q → q ≠ g) (x : Value) : Fwz B (W.setCell ⟨g, k, none⟩ x) b s V cl un lk fs hs R td :=
  h.kept fun q hq => (grown_set W ⟨g, k, none⟩ x).block q (h.lt q hq).2 (by simp; exact ho q hq)
set_option maxHeartbeats 1600000 in
theorem fBring_any (w : World) (vc : Value) (hz : Fwz B w b s V cl un lk fs (inLs n R) R td) (hc : Cro B w b s V vc c) (hl : ∀ l ∈ c, fmd l = true ∧ idx l < n) (hev : n % 2 = 0) (hlc : c.length ≤ 2097152) :
    Calls Tryz.prog 65 #[.pointer (some ⟨b, 1, none⟩), vc] w fun e w' => ∃ m : Nat, e = .returned (.int .i64 (m : Int)) ∧ BrL B b s V cl un lk fs n R c td vc w w' c.length m := by
  have HSt : Hid (BrL B b s V cl un lk fs n R c td vc w w 0 0) := ⟨c, ⟨.refl _, by omega, by omega, by omega, by omega⟩, hz, hc, Mo.refl _ _⟩
  obtain ⟨av, cv, rfl⟩ := row_form' hc.row
  have HLt : Hid ((∀ l ∈ c, fmd l = true ∧ idx l < n) ∧ n % 2 = 0) := ⟨hl, hev⟩
  clear hz hc hl hev
  go_enter Tryz.func65, Tryz.ntmps65
  go_wp2_with fail
  go_loopg [5, 10] c.length (fun g mv iv wx => ∃ k m : Nat, k + g = c.length ∧ mv = .int .i64 (m : Int) ∧ iv = .int .i64 (k : Int) ∧ BrL B b s V cl un lk fs n R c td (.slice av c.length cv) w wx k m)
  case atStart => exact ⟨0, 0, by omega, rfl, rfl, HSt.out⟩
  case round =>
    obtain ⟨k, m, hk, rfl, rfl, c', hb, hz, hc, hmo⟩ := hrel
    have HK : Hid (k + gk = c.length) := hk
    have HB : Hid (Bri R c c' k m) := hb
    have HZ : Hid (Fwz B wr b s V cl un lk fs (inLs n R) R td ∧ Cro B wr b s V (.slice av c.length cv) c' ∧ Mo w (vown (.slice av c.length cv)) wr (vown (.slice av c.length cv))) := ⟨hz, hc, hmo⟩
    have hm2 := hb.two
    have hmk := hb.le
    have hcl := hb.len
    by_cases hlt : k < c.length
    · obtain ⟨g, cap, ev, kc, zc⟩ := hc.cell (j := k) (by omega)
      rw [hcl] at ev
      injection ev with e1 e2 e3
      subst e1 e3
      have hin := hb.pm.mem_iff.1 (getD_mem0 (c := c') (k := k) (by omega))
      have hf := HLt.out.1 _ hin
      obtain ⟨l, hl⟩ : ∃ l, c'.getD k 0 = l := ⟨_, rfl⟩
      rw [hl] at kc hf
      have HLe : Hid (c'.getD k 0 = l) := hl
      have HIf : Hid (Calls Tryz.prog 69 #[.pointer (some ⟨b, 1, none⟩), .int .i64 l] wr fun e w' => e = .returned (.bool (decide (-l ∈ R))) ∧ Below wr.heap.size wr w') := fFalse_any l wr hz hf.1 (idx_neg_lt hf.1 HLt.out.2 hf.2)
      have HL : Hid (c'.length = c.length) := hcl
      clear hz hc hmo hb hl hf hin hk hcl
      by_cases hm : m < 2
      · by_cases hn : -l ∈ R
        · have HD : Hid (decide (-l ∈ R) = true) := decide_eq_true hn
          have HF : Hid (∀ W, Below wr.heap.size wr W → BrL B b s V cl un lk fs n R c td (.slice (some ⟨g, 0, none⟩) c.length cv) w W (k + 1) m) := fun W hW => ⟨c', HB.out.no (by rw [HLe.out]; exact hn), HZ.out.1.below hW, ⟨row_kept HZ.out.2.1.row fun q hq => hW.block q (HZ.out.2.1.row.lt q hq.symm).2, HZ.out.2.1.off⟩, HZ.out.2.2.trans (Mo.below hW)⟩
          clear hn
          go_wp2_with (go_at_call 69; refine HIf.out.mono ?_; rintro e w1 ⟨rfl, hb1⟩; rw [HD.out]; have HB1 : Hid (Below wr.heap.size wr w1) := hb1; clear hb1)
          go_roundg (gk - 1)
          case measure => have := HK.out; omega
          case rel => exact ⟨k + 1, m, by have := HK.out; omega, rfl, by go_num, HF.out _ HB1.out⟩
        · have HD : Hid (decide (-l ∈ R) = false) := decide_eq_false hn
          have HN : Hid (-l ∉ R) := hn
          clear hn
          go_upto_region 6 with (go_at_call 69; refine HIf.out.mono ?_; rintro e w1 ⟨rfl, hb1⟩; rw [HD.out]; have HB1 : Hid (Below wr.heap.size wr w1) := hb1; clear hb1)
          have rV : w1.ownsRow B 3 1 (.slice (some ⟨g, 0, none⟩) c.length cv) c'.length (i64s c') := row_kept HZ.out.2.1.row fun q hq => HB1.out.block q (HZ.out.2.1.row.lt q hq.symm).2
          rw [HL.out] at rV
          obtain ⟨ze, hze⟩ : ∃ ze, c'.getD m 0 = ze := ⟨_, rfl⟩
          have kM := row_cell rV (j := m) (x := .int .i64 ze) (by unfold i64s; rw [← hze, List.getElem?_map, List.getD_eq_getElem?_getD, List.getElem?_eq_getElem (by have := HL.out; omega)]; rfl)
          have kK := row_cell rV (j := k) (x := .int .i64 l) (by unfold i64s; rw [← HLe.out, List.getElem?_map, List.getD_eq_getElem?_getD, List.getElem?_eq_getElem (by have := HL.out; omega)]; rfl)
          have zM := row_fz rV m
          have zK := row_fz rV k
          have HF : Hid (∀ q : Nat, BrL B b s V cl un lk fs n R c td (.slice (some ⟨g, 0, none⟩) c.length cv) w (((w1.drewN q).setCell ⟨g, m, none⟩ (.int .i64 l)).setCell ⟨g, k, none⟩ (.int .i64 ze)) (k + 1) (m + 1)) := fun q => by
            have bl : Below wr.heap.size wr (w1.drewN q) := Below.step HB1.out (below_drewN _ _)
            have hoff : ∀ x, s.own V b x → x ≠ g := fun x hx e => HZ.out.2.1.off x hx (by rw [e]; rfl)
            have z1 := ((HZ.out.1.below bl).beside (k := m) hoff (.int .i64 l)).beside (k := k) hoff (.int .i64 ze)
            have r1 : (w1.drewN q).ownsRow B 3 1 (.slice (some ⟨g, 0, none⟩) c.length cv) c.length (i64s c') := rV
            have r2 := own_cell (own_cell r1 (k := m) (by omega) (.int .i64 l)) (k := k) (by omega) (.int .i64 ze)
            rw [← i64s_set, ← i64s_set] at r2
            have em : mvd c' m k = (c'.set m l).set k ze := by unfold mvd; rw [hze, HLe.out]
            refine ⟨mvd c' m k, HB.out.yes hm (by rw [HL.out]; exact hlt) (by rw [HLe.out]; exact HN.out), z1, ⟨by rw [mvd_len, HL.out, em]; exact r2, HZ.out.2.1.off⟩, ?_⟩
            exact ((HZ.out.2.2.trans (Mo.below bl)).trans (Mo.set _ g m _ (show vown _ g from rfl))).trans (Mo.set _ g k _ (show vown _ g from rfl))
          clear kc zc
          refine region_rw_fl 12 [2, 3] (by kernel_rfl) (by kernel_rfl) (by kernel_rfl) (by kernel_rfl) (by kernel_rfl) (by decide) (by decide) (by kernel_rfl) (fun _ _ d _ _ h => by cases d <;> exact h) ?_
          simp only [List.take, List.drop]
          repeat (go_big_quiet_step (fail))
          refine wpQuiet_nil ?_
          intro w9 hw9
          obtain ⟨nq, hw9⟩ := hw9
          subst hw9
          have HF9 := HF.out nq
          have HF9 : Hid (BrL B b s V cl un lk fs n R c td (.slice (some ⟨g, 0, none⟩) c.length cv) w (((w1.drewN nq).setCell ⟨g, m, none⟩ (.int .i64 l)).setCell ⟨g, k, none⟩ (.int .i64 ze)) (k + 1) (m + 1)) := HF9
          have yM : (w1.drewN nq).cell? ⟨g, m, none⟩ = some (.int .i64 ze) := kM
          have yK : (w1.drewN nq).cell? ⟨g, k, none⟩ = some (.int .i64 l) := kK
          have xM : (w1.drewN nq).frozen? ⟨g, m, none⟩ = false := zM
          have xK : ((w1.drewN nq).setCell ⟨g, m, none⟩ (.int .i64 l)).frozen? ⟨g, k, none⟩ = false := (by simpa [World.frozen?_setCell] using zK)
          have cK : ∃ x, ((w1.drewN nq).setCell ⟨g, m, none⟩ (.int .i64 l)).cell? ⟨g, k, none⟩ = some x := by
            have r1 : (w1.drewN nq).ownsRow B 3 1 (.slice (some ⟨g, 0, none⟩) c.length cv) c.length (i64s c') := rV
            have r2 := own_cell r1 (k := m) (by omega) (.int .i64 l)
            exact ⟨_, row_cell r2 (j := k) (List.getElem?_eq_getElem (by simp [i64s]; have := HL.out; omega))⟩
          obtain ⟨x9, cK⟩ := cK
          have HK9 : Hid (k + gk = c.length) := HK.out
          clear rV hze HF
          go_wp2
          go_roundg (gk - 1)
          case measure => have := HK9.out; omega
          case rel => exact ⟨k + 1, m + 1, by have := HK9.out; omega, by go_num, by go_num, HF9.out⟩
      · obtain rfl : m = 2 := by omega
        have HF : Hid (BrL B b s V cl un lk fs n R c td (.slice (some ⟨g, 0, none⟩) c.length cv) w wr (k + 1) 2) := ⟨c', HB.out.full rfl, HZ.out⟩
        clear HIf
        go_wp2
        go_roundg (gk - 1)
        case measure => have := HK.out; omega
        case rel => exact ⟨k + 1, 2, by have := HK.out; omega, rfl, by go_num, HF.out⟩
    · obtain rfl : k = c.length := by omega
      have HF : Hid (BrL B b s V cl un lk fs n R c td (.slice av c.length cv) w wr c.length m) := ⟨c', HB.out, HZ.out⟩
      clear hz hc hmo hb hk hlt
      go_wp2
      go_ret
      exact ⟨m, rfl, HF.out⟩
end
end Go.Proofs.YtjajafeaengnjaaGreatDoor
set_option linter.unusedSimpArgs false
set_option linter.unusedVariables false
namespace Go.Proofs.YtjajafeaengnjaaGreatDoor
open Go Go.RowKit

/-- the numbers that are free -/
def Uok (un : List Nat) (cl : Fcl) : Prop := un.Nodup ∧ ∀ u ∈ un, 0 < u ∧ u < cl.length ∧ lts cl u = []
section
variable {B b : Nat} {W : World} {s : Sf} {V : List Value} {cl : Fcl} {un : List Nat} {lk : List (Nat × Nat)} {fs : List Nat} {hs : List Bool} {R c : List Int} {td n : Nat} {vc : Value}
theorem clz_set {k fr : Nat} (hl : V.length = cl.length) (hk : k < cl.length) : clz (V.set k vc) (cl.set k (c, (cl.getD k ([], 0)).2)) = (clz V cl).set (k * 2) vc := by
  have hz : (V.zip cl)[k]? = some (V.getD k nilS, cl.getD k ([], 0)) := by
    rw [List.getElem?_zip_eq_some, List.getD_eq_getElem?_getD, List.getD_eq_getElem?_getD, List.getElem?_eq_getElem (by omega), List.getElem?_eq_getElem hk]; exact ⟨rfl, rfl⟩
  have := (flat2_set (fun x : Value × (List Int × Nat) => x.1) (fun x => Value.int .i64 (x.2.2 : Int)) (V.zip cl) k _ (vc, (c, (cl.getD k ([], 0)).2)) hz).1 rfl
  unfold clz
  rw [← this]
  congr 1
  refine List.ext_getElem? fun i => ?_
  by_cases e : i = k
  · subst e
    rw [List.getElem?_set_self (by simp; omega), List.getElem?_zip_eq_some, List.getElem?_set_self hk, List.getElem?_set_self (by omega)]; exact ⟨rfl, rfl⟩
  · rw [List.getElem?_set_ne (fun e2 => e e2.symm)]
    show (List.zipWith Prod.mk (V.set k vc) (cl.set k _))[i]? = (List.zipWith Prod.mk V cl)[i]?
    rw [List.getElem?_zipWith, List.getElem?_zipWith, List.getElem?_set_ne (fun e2 => e e2.symm), List.getElem?_set_ne (fun e2 => e e2.symm)]
theorem getV_set {V : List Value} {k j : Nat} {v : Value} (hk : k < V.length) : (V.set k v).getD j nilS = if j = k then v else V.getD j nilS := by
  rw [List.getD_eq_getElem?_getD, List.getD_eq_getElem?_getD, List.getElem?_set]
  by_cases e : k = j
  · subst e; simp [hk]
  · rw [if_neg e, if_neg (fun h => e h.symm)]
theorem Fwz.setL (h : Fwz B W b s V cl un lk fs hs R td) {g cap k : Nat} (hv : s.C = .slice (some ⟨g, 0, none⟩) cl.length cap) (hk : k < cl.length) (hc : Cro B W b s V vc c) :
    Fwz B (W.setCell ⟨g, k * 2, none⟩ vc) b s (V.set k vc) (cl.set k (c, (cl.getD k ([], 0)).2)) un lk fs hs R td ∧ Mo W (fun q => s.own V b q ∨ vown vc q) (W.setCell ⟨g, k * 2, none⟩ vc) (s.own (V.set k vc) b) := by
  have hg := grown_set W ⟨g, k * 2, none⟩ vc
  have ht : ∀ x, some g = some x → Ty W x 90 := fun x e => row_ty h.c (by rw [hv, ← e]; rfl)
  have hvl := h.vl
  have hgV : ∀ j, (V.set k vc).getD j nilS = if j = k then vc else V.getD j nilS := fun j => getV_set (by omega)
  have hlt : ∀ j, lts (cl.set k (c, (cl.getD k ([], 0)).2)) j = if j = k then c else lts cl j := fun j => lts_setl hk
  have offV : ∀ j q, (V.getD j nilS).ownBlock = some q → vc.ownBlock ≠ some q := fun j q hq e => hc.off q (Fwz.ownV j q hq) e.symm
  refine ⟨⟨box_other h.box hg ht (by decide), h.hb, ?_, row_other h.u hg ht (by decide), row_other h.l hg ht (by decide), row_other h.f hg ht (by decide), row_other h.h hg ht (by decide), row_other h.r hg ht (by decide), h.uf, by simp; exact hvl, fun j => ?_, fun i j q h1 h2 => ?_, fun j q h1 => ?_⟩, ?_⟩
  · have h1 := h.c
    rw [hv] at h1 ⊢
    rw [clz_set (fr := 0) hvl hk, List.length_set]
    exact own_cell h1 (by omega) _
  · rw [hgV, hlt]
    split
    · exact row_other hc.row hg ht (by decide)
    · exact row_other (h.v j) hg ht (by decide)
  · rw [hgV] at h1 h2
    split at h1 <;> split at h2
    · rename_i e1 e2; rw [e1, e2]
    · exact absurd h1 (offV j q h2)
    · exact absurd h2 (offV i q h1)
    · exact h.va i j q h1 h2
  · rw [hgV] at h1
    split at h1
    · intro e2; exact hc.off q (.inr (.inr (.inr (.inr (.inr (.inr (.inl e2.symm))))))) h1.symm
    · exact h.vr j q h1
  · refine ⟨hg.os, hg.tape, hg.output, hg.size, fun q hq hn => hg.block q hq fun e => hn (.inl (.inr (.inl (by rw [hv, e]; rfl)))), fun q hq => ?_⟩
    rcases hq with a | a | a | a | a | a | a | ⟨v, hv2, a⟩
    · exact .inl (.inl (.inl a))
    · exact .inl (.inl (.inr (.inl a)))
    · exact .inl (.inl (.inr (.inr (.inl a))))
    · exact .inl (.inl (.inr (.inr (.inr (.inl a)))))
    · exact .inl (.inl (.inr (.inr (.inr (.inr (.inl a))))))
    · exact .inl (.inl (.inr (.inr (.inr (.inr (.inr (.inl a)))))))
    · exact .inl (.inl (.inr (.inr (.inr (.inr (.inr (.inr (.inl a))))))))
    · obtain ⟨j, hj, e⟩ := mem_getV hv2
      rw [hgV] at e
      split at e
      · exact .inl (.inr (by rw [e]; exact a))
      · exact .inl (.inl (Fwz.ownV j q (by rw [e]; exact a.symm)))
end
/-- between the number and the clause -/
def KeM (B b : Nat) (s : Sf) (V : List Value) (cl : Fcl) (n : Nat) (fs : List Nat) (ch : Nat → List Nat) (hs : List Bool) (R : List Int) (td : Nat) (w wx : World) (k : Nat) : Prop :=
  ∃ s1 V1 cl1 un1 lk1, Fwz B wx b s1 V1 cl1 un1 lk1 fs hs R td ∧ Mo w (s.own V b) wx (s1.own V1 b) ∧ Wa n cl1 lk1 fs ch ∧ Frs cl1 ∧ lts cl1 k = [] ∧ 0 < k ∧ k < cl1.length ∧ (∀ j, lts cl1 j = lts cl j) ∧ cl1.length ≤ cl.length + 1 ∧ Uok un1 cl1 ∧ k ∉ un1 ∧ s1.M = s.M ∧ s1.D = s.D
/-- what keep leaves -/
def KeS (B b : Nat) (s : Sf) (V : List Value) (cl : Fcl) (n : Nat) (hs : List Bool) (R : List Int) (td : Nat) (vc : Value) (c : List Int) (w w' : World) (k : Nat) : Prop :=
  ∃ s' V' cl1 un' lk' fs' ch' fr, Fwz B w' b s' V' (cl1.set k (c, fr)) un' lk' fs' hs R td ∧ Mo w (fun q => s.own V b q ∨ vown vc q) w' (s'.own V' b) ∧ Wa n (cl1.set k (c, fr)) lk' fs' ch' ∧ Frs (cl1.set k (c, fr)) ∧ lts cl1 k = [] ∧ 0 < k ∧ k < cl1.length ∧ (∀ j, lts cl1 j = lts cl j) ∧ cl1.length ≤ cl.length + 1 ∧ Uok un' (cl1.set k (c, fr)) ∧ k ∉ un' ∧ s'.M = s.M ∧ s'.D = s.D ∧ V'.getD k nilS = vc
theorem infoC11 : (Tryz.prog.info? 90).map (fun i => (i.zero, i.size, i.bytes)) = some (some (.agg #[.slice none 0 0, .int .i64 0]), 2, 32) := by kernel_rfl
theorem infoL11 : (Tryz.prog.info? 100).map (fun i => (i.zero, i.size, i.bytes)) = some (some (.agg #[.int .i32 0, .int .i32 0]), 2, 8) := by kernel_rfl
section
variable {B b : Nat} {s : Sf} {V : List Value} {cl : Fcl} {un : List Nat} {lk : List (Nat × Nat)} {fs : List Nat} {ch : Nat → List Nat} {hs : List Bool} {R c : List Int} {td n : Nat}
theorem Fwz.cutU {W : World} {m : Nat} {u : Value} (h : Fwz B W b s V cl un lk fs hs R td) (hm : m ≤ un.length) (hu : W.ownsRow B 21 1 u m (i32s (nats (un.take m)))) (he : u.ownBlock = s.U.ownBlock) :
    Fwz B (W.setCell ⟨b, 3, none⟩ u) b { s with U := u } V cl (un.take m) lk fs hs R td ∧ Mo W (s.own V b) (W.setCell ⟨b, 3, none⟩ u) (({ s with U := u } : Sf).own V b) := by
  have hg : W.grownBy W s.U.ownBlock := ⟨rfl, rfl, rfl, Nat.le_refl _, fun _ _ _ => rfl⟩
  have hl : (un.take m).length = m := by rw [List.length_take]; omega
  exact h.putU (un' := un.take m) hg (.inl he) (by rw [hl]; exact hu)
theorem cells_new2 (w : World) (t : TypeId) (cs : List Value) : ∀ j u, cs[j]? = some u → (w.alloc (.cells cs.toArray t)).cell? ((⟨w.heap.size, 0, none⟩ : Addr).add j) = some u := fun j u hu => by
  rw [Addr.add_lit]
  have hh : (w.alloc (.cells cs.toArray t)).heap[w.heap.size]? = _ := World.alloc_heap_new w (.cells cs.toArray t)
  show (match (w.alloc (.cells cs.toArray t)).heap[w.heap.size]? with | some (Obj.cells c elem frozen) => c[0 + j]? | x => none) = _
  rw [hh]
  simpa using hu
theorem clz_push (hl : V.length = cl.length) : clz (V ++ [nilS]) (cl ++ [([], 0)]) = clz V cl ++ [nilS, .int .i64 0] := by
  unfold clz
  rw [List.zip_append hl, List.flatMap_append]
  rfl
theorem getV_push (V : List Value) (k : Nat) : (V ++ [nilS]).getD k nilS = V.getD k nilS := by
  rw [List.getD_eq_getElem?_getD, List.getD_eq_getElem?_getD]
  by_cases e : k < V.length
  · rw [List.getElem?_append_left e]
  · rw [List.getElem?_append_right (by omega), List.getElem?_eq_none (l := V) (by omega)]
    by_cases e2 : k - V.length = 0
    · rw [e2]; rfl
    · rw [List.getElem?_eq_none (by simp; omega)]
theorem Frs.push {cl : Fcl} (h : Frs cl) : Frs (cl ++ [([], 0)]) := fun k => by
  rw [List.getD_eq_getElem?_getD]
  by_cases e : k < cl.length
  · rw [List.getElem?_append_left e]; have := h k; rwa [List.getD_eq_getElem?_getD] at this
  · rw [List.getElem?_append_right (by omega)]
    by_cases e2 : k - cl.length = 0
    · rw [e2]; exact Nat.zero_le _
    · rw [List.getElem?_eq_none (by simp; omega)]; exact Nat.zero_le _
theorem twp_push (lk : List (Nat × Nat)) : twp (lk ++ [(0, 0), (0, 0)]) = twp lk ++ [.int .i32 0, .int .i32 0, .int .i32 0, .int .i32 0] := by
  unfold twp; rw [List.flatMap_append]; rfl
set_option maxRecDepth 100000 in
set_option maxHeartbeats 1600000 in
theorem fKeep_any (w : World) (vc : Value) (hz : Fwz B w b s V cl un lk fs hs R td) (hw : Wa n cl lk fs ch) (hfr : Frs cl) (hu : Uok un cl) (hc : Cro B w b s V vc c) (hl : ∀ l ∈ c, fmd l = true ∧ idx l < n) (hnd : c.Nodup) (hcl : cl.length < 1073741824) (hul : un.length ≤ 1073741824) (hpos : 0 < cl.length) (hlc : c.length ≤ 2097152) (hB : B ≤ w.heap.size) :
    Calls Tryz.prog 66 #[.pointer (some ⟨b, 1, none⟩), vc] w fun e w' => ∃ k : Nat, e = .returned (.int .i32 (k : Int)) ∧ KeS B b s V cl n hs R td vc c w w' k := by
  obtain ⟨av, cv, rfl⟩ := row_form' hc.row
  have HC : Hid (Cro B w b s V (.slice av c.length cv) c ∧ (∀ l ∈ c, fmd l = true ∧ idx l < n) ∧ c.Nodup ∧ cl.length < 1073741824 ∧ B ≤ w.heap.size ∧ fs.length = n ∧ n ≤ 2097152) := ⟨hc, hl, hnd, hcl, hB, hw.c.len, hw.hn⟩
  have HZ : Hid (Fwz B w b s V cl un lk fs hs R td ∧ Wa n cl lk fs ch ∧ Frs cl ∧ Uok un cl) := ⟨hz, hw, hfr, hu⟩
  obtain ⟨aC, cC, eC⟩ := row_form' hz.c
  obtain ⟨aU, cU, eU⟩ := row_form' hz.u
  have b2 := hz.c2
  have b3 := hz.c3
  rw [eC] at b2
  rw [eU] at b3
  obtain ⟨N, hN⟩ : ∃ N, cl.length = N := ⟨_, rfl⟩
  obtain ⟨M, hM⟩ : ∃ M, un.length = M := ⟨_, rfl⟩
  have HNM : Hid (cl.length = N ∧ un.length = M) := ⟨hN, hM⟩
  have HPos : Hid (N ≠ 0) := by rw [← hN]; exact fun e => by have := hpos; omega
  have HE : Hid (s.C = .slice aC N cC ∧ s.U = .slice aU M cU) := ⟨by rw [← hN]; exact eC, by rw [← hM]; exact eU⟩
  rw [hN] at b2 hcl
  rw [hM] at b3 hul
  have hwN : IntKind.i32.wrap (N : Int) = (N : Int) := by rw [wrap_i32']; omega
  have hwM : wrap64 ((M : Int) - 1) = (M : Int) - 1 := by unfold wrap64; omega
  clear hz hw hfr hu hc hl hnd eC eU hB hN hM
  have hmid : ∀ k wx, KeM B b s V cl n fs ch hs R td w wx k → True := fun _ _ _ => trivial
  clear hmid
  go_enter Tryz.func66, Tryz.ntmps66
  go_upto_if 20 with fail
  go_cut [5, 6, 17, 18, 19, 20] from 21 to 57 (fun nv x6 x17 x18 x19 x20 wx => ∃ k : Nat, nv = .int .i32 (k : Int) ∧ KeM B b s V cl n fs ch hs R td w wx k)
  case first =>
    by_cases hM0 : M = 0
    · subst hM0
      have hun : un = [] := List.eq_nil_of_length_eq_zero HNM.out.2
      obtain ⟨iC, hiC, hzC0, hzC1, hzC2⟩ := info_parts infoC11
      obtain ⟨iL, hiL, hzL0, hzL1, hzL2⟩ := info_parts infoL11
      have hz0 := HZ.out.1.below (below_box w (.cells #[.slice none 0 0, .int .i64 0] 90))
      have rC : (w.alloc (.cells #[.slice none 0 0, .int .i64 0] 90)).ownsRow B 90 2 s.C cl.length (clz V cl) := hz0.c
      rw [HE.out.1, HNM.out.1] at rC
      have hBs : B ≤ (w.alloc (.cells #[.slice none 0 0, .int .i64 0] 90)).heap.size := Nat.le_trans HC.out.2.2.2.2.1 (below_box w _).size
      obtain ⟨v5, w5, run5, own5, ap5⟩ := run_append_apk (P := Tryz.prog) (w.alloc (.cells #[.slice none 0 0, .int .i64 0] 90)) B 57 57 90 iC (.agg #[.slice none 0 0, .int .i64 0]) 2 32 Tryz.underlying57 hiC hzC0 hzC1 hzC2 rfl (by decide) _ _ _ rC ⟨w.heap.size, 0, none⟩ 1 1 [.slice none 0 0, .int .i64 0] rfl (cells_new2 w _ _) (by simp [Value.oneCell']) (by unfold maxLen; omega) (by omega) hBs
      have e5 : clz V cl ++ [.slice none 0 0, .int .i64 0] = clz (V ++ [nilS]) (cl ++ [([], 0)]) := (clz_push HZ.out.1.vl).symm
      rw [e5] at own5
      have hlenC : (cl ++ [([], 0)]).length = N + 1 := by rw [List.length_append, HNM.out.1]; rfl
      have hput := hz0.putC (cl' := cl ++ [([], 0)]) (V' := V ++ [nilS]) (u := v5) (W1 := w5) (by rw [HE.out.1]; exact ap5.grown) (by rw [HE.out.1]; exact ap5.new) (by rw [hlenC]; exact own5) (by rw [List.length_append, List.length_append, HZ.out.1.vl]; rfl) (lts_push cl) (getV_push V)
      have hb5 := box_other hz0.box (W' := w5) (row := s.C.ownBlock) (by rw [HE.out.1]; exact ap5.grown) (fun x e => row_ty hz0.c e.symm) (by decide)
      have p2 : w5.cell? ⟨b, 2, none⟩ = some s.C := box_cell hb5 rfl
      have p2f : w5.frozen? ⟨b, 2, none⟩ = false := by simp [World.frozen?, hb5]
      rw [HE.out.1] at p2
      obtain ⟨a5, c5, ev5⟩ := row_form' own5
      subst ev5
      obtain ⟨w6, hw6⟩ : ∃ w6, w5.setCell ⟨b, 2, none⟩ (.slice a5 (N + 1) c5) = w6 := ⟨_, rfl⟩
      rw [hw6] at hput
      have HP : Hid (Fwz B w6 b { s with C := .slice a5 (N + 1) c5 } (V ++ [nilS]) (cl ++ [([], 0)]) un lk fs hs R td ∧ Mo (w.alloc (.cells #[.slice none 0 0, .int .i64 0] 90)) (s.own V b) w6 (({ s with C := .slice a5 (N + 1) c5 } : Sf).own (V ++ [nilS]) b)) := hput
      have hzL := HP.out.1.below (below_box w6 (.cells #[.int .i32 0, .int .i32 0, .int .i32 0, .int .i32 0] 100))
      obtain ⟨aL, cL, eL⟩ := row_form' HZ.out.1.l
      have b4 : w6.cell? ⟨b, 4, none⟩ = some s.L := HP.out.1.c4
      have rL : (w6.alloc (.cells #[.int .i32 0, .int .i32 0, .int .i32 0, .int .i32 0] 100)).ownsRow B 100 2 s.L lk.length (twp lk) := hzL.l
      have hlk := HZ.out.2.1.two
      rw [HNM.out.1] at hlk
      rw [hlk] at eL
      rw [eL] at rL b4
      rw [hlk] at rL
      have hBs6 : B ≤ (w6.alloc (.cells #[.int .i32 0, .int .i32 0, .int .i32 0, .int .i32 0] 100)).heap.size := Nat.le_trans (Nat.le_trans hBs HP.out.2.size) (below_box w6 _).size
      obtain ⟨v7, w7, run7, own7, ap7⟩ := run_append_apk (P := Tryz.prog) (w6.alloc (.cells #[.int .i32 0, .int .i32 0, .int .i32 0, .int .i32 0] 100)) B 59 59 100 iL (.agg #[.int .i32 0, .int .i32 0]) 2 8 Tryz.underlying59 hiL hzL0 hzL1 hzL2 rfl (by decide) _ _ _ rL ⟨w6.heap.size, 0, none⟩ 2 2 [.int .i32 0, .int .i32 0, .int .i32 0, .int .i32 0] rfl (cells_new2 w6 _ _) (by simp [Value.oneCell']) (by unfold maxLen; omega) (by omega) hBs6
      rw [← twp_push] at own7
      have hlenL : (lk ++ [(0, 0), (0, 0)]).length = 2 * N + 2 := by rw [List.length_append, hlk]; rfl
      have eL2 : ({ s with C := .slice a5 (N + 1) c5 } : Sf).L = .slice aL (2 * N) cL := eL
      have hput7 := hzL.putL (lk' := lk ++ [(0, 0), (0, 0)]) (u := v7) (W1 := w7) (by rw [eL2]; exact ap7.grown) (by rw [eL2]; exact ap7.new) (by rw [hlenL]; exact own7)
      have hb7 := box_other hzL.box (W' := w7) (row := s.L.ownBlock) (by rw [eL]; exact ap7.grown) (fun x e => row_ty hzL.l (show some x = s.L.ownBlock from e.symm)) (by decide)
      have p4 : w7.cell? ⟨b, 4, none⟩ = some s.L := box_cell hb7 rfl
      have p4f : w7.frozen? ⟨b, 4, none⟩ = false := by simp [World.frozen?, hb7]
      rw [eL] at p4
      obtain ⟨a7, c7, ev7⟩ := row_form' own7
      subst ev7
      have HF : Hid (KeM B b s V cl n fs ch hs R td w (w7.setCell ⟨b, 4, none⟩ (.slice a7 (2 * N + 2) c7)) N) := by
        refine ⟨_, _, _, _, _, hput7.1, (((Mo.below (below_box w _)).trans HP.out.2).trans (Mo.below (below_box w6 _))).trans hput7.2, HZ.out.2.1.push, HZ.out.2.2.1.push, ?_, ?_, by rw [hlenC]; omega, lts_push cl, by rw [hlenC, HNM.out.1]; exact Nat.le_refl _, ?_, by rw [hun]; simp, rfl, rfl⟩
        · rw [lts_push]; exact Classical.byContradiction fun hn => by have := lts_in hn; rw [HNM.out.1] at this; omega
        · have h0 := HZ.out.2.1.two
          rcases Nat.eq_zero_or_pos N with e | e
          · exact absurd e HPos.out
          · exact e
        · rw [hun]; exact ⟨by simp, by simp⟩
      have HRun5 : Hid ((Builtin.append_ #[57, 57] 57 #[.slice aC N cC, .slice (some ⟨w.heap.size, 0, none⟩) 1 1]).run Tryz.prog (w.alloc (.cells #[.slice none 0 0, .int .i64 0] 90)) = .ok (.slice a5 (N + 1) c5) w5) := run5
      have HRun7 : Hid ((Builtin.append_ #[59, 59] 59 #[.slice aL (2 * N) cL, .slice (some ⟨w6.heap.size, 0, none⟩) 2 2]).run Tryz.prog (w6.alloc (.cells #[.int .i32 0, .int .i32 0, .int .i32 0, .int .i32 0] 100)) = .ok (.slice a7 (2 * N + 2) c7) w7) := run7
      have HW6 : Hid (w5.setCell ⟨b, 2, none⟩ (.slice a5 (N + 1) c5) = w6) := hw6
      have HBx4 : Hid (w6.cell? ⟨b, 4, none⟩ = some (.slice aL (2 * N) cL)) := b4
      clear run5 own5 ap5 hput hb5 run7 own7 ap7 hput7 hb7 rC rL hz0 hzL eL eL2 e5 hlenC hlenL hlk hun hw6 b4
      go_upto_region 6 with (at_builtin; refine Lib.wpList_append_run _ rfl _ _ _ _ rfl _ _ rfl rfl _ _ HRun5.out ?_)
      rw [HW6.out]
      have b4 := HBx4.out
      go_wp2_with (at_builtin; refine Lib.wpList_append_run _ rfl _ _ _ _ rfl _ _ rfl rfl _ _ HRun7.out ?_)
      go_meet
      exact ⟨N, rfl, HF.out⟩
    · obtain ⟨M', rfl⟩ : ∃ M', M = M' + 1 := ⟨M - 1, by omega⟩
      have eM : ((M' + 1 : Nat) : Int) - 1 = (M' : Int) := by omega
      rw [eM]
      obtain ⟨gU, cU', eU', u1, u2, u3⟩ := row_some HZ.out.1.u (by have := HNM.out.2; omega)
      have eU2 := HE.out.2
      rw [HNM.out.2] at eU' u1
      rw [eU2] at eU'
      injection eU' with e1 e2 e3
      subst e1 e3
      have rU := HZ.out.1.u
      rw [eU2, HNM.out.2] at rU
      have hml : M' < un.length := by have := HNM.out.2; omega
      obtain ⟨k, hk⟩ : ∃ k, un.getD M' 0 = k := ⟨_, rfl⟩
      have kU := row_cell rU (j := M') (x := .int .i32 (k : Int)) (by unfold i32s nats; rw [← hk, List.getElem?_map, List.getElem?_map, List.getD_eq_getElem?_getD, List.getElem?_eq_getElem hml]; rfl)
      have f3 := HZ.out.1.fz 3
      have hcut := HZ.out.1.cutU (m := M') (u := .slice (some ⟨gU, 0, none⟩) M' cU) (by omega) (by have := own_cut rU (m := M') (by omega); rw [Nat.mul_one] at this; unfold i32s nats at this ⊢; rw [List.map_take, List.map_take]; exact this) (by rw [eU2]; rfl)
      have hsp : un = un.take M' ++ [k] := by
        have := take_succ_getD un 0 M' hml
        rw [hk, List.take_of_length_le (by have := HNM.out.2; omega)] at this
        exact this
      have hnd := HZ.out.2.2.2.1
      have hkin : k ∈ un := by rw [hsp]; simp
      have hk3 := HZ.out.2.2.2.2 k hkin
      have HF : Hid (∀ W, W = w.setCell ⟨b, 3, none⟩ (.slice (some ⟨gU, 0, none⟩) M' cU) → KeM B b s V cl n fs ch hs R td w W.drew k) := fun W hW => by
        subst hW
        refine ⟨_, _, _, _, _, hcut.1.below (Below.refl _ _).drew, hcut.2.trans (Mo.below (Below.refl _ _).drew), HZ.out.2.1, HZ.out.2.2.1, hk3.2.2, hk3.1, hk3.2.1, fun _ => rfl, by omega, ⟨hnd.sublist (List.take_sublist _ _), fun u hu => HZ.out.2.2.2.2 u (List.mem_of_mem_take hu)⟩, ?_, rfl, rfl⟩
        rw [hsp] at hnd
        intro hx
        exact (List.nodup_append.1 hnd).2.2 k hx k (by simp) rfl
      have HFd := HF.out _ rfl
      have HFe : Hid (KeM B b s V cl n fs ch hs R td w (w.setCell ⟨b, 3, none⟩ (.slice (some ⟨gU, 0, none⟩) M' cU)).drew k) := HFd
      have hMc : M' ≤ cU := by omega
      have hnn : ¬ ((M' : Int) < 0) := by omega
      have hlt1 : (M' : Int) < (M' : Int) + 1 := by omega
      have hle1 : (M' : Int) ≤ (M' : Int) + 1 := by omega
      clear HFd HF hcut hsp hnd hkin hk3 rU eU2 hk hml
      go_upto_region 4 with fail
      go_region_law (fail)
      all_goals
        go_wp2
        go_meet
        exact ⟨k, rfl, HFe.out⟩
  case rest =>
    obtain ⟨k, rfl, s1, V1, cl1, un1, lk1, hz, hmo, hw, hfr, hk0, hkp, hkl, hls, hcl1, hu, hnu, hsM, hsD⟩ := hcut
    have hc1 := HC.out.1.mo hmo
    obtain ⟨gC, cC1, eC1, q1, q2, q3⟩ := row_some hz.c (by omega)
    have e2 := hz.c2
    rw [eC1] at e2
    have rC := hz.c
    rw [eC1] at rC
    have kC := row_cell rC (clz_at hz.vl hkl).1
    have zC := row_fz rC (k * 2)
    have hset := hz.setL eC1 hkl hc1
    obtain ⟨fr, hfr0⟩ : ∃ fr, (cl1.getD k ([], 0)).2 = fr := ⟨_, rfl⟩
    rw [hfr0] at hset
    have hfr4 : fr ≤ 4194304 := by rw [← hfr0]; exact hfr k
    have HX : Hid (Fwz B (wc.setCell ⟨gC, k * 2, none⟩ (.slice av c.length cv)) b s1 (V1.set k (.slice av c.length cv)) (cl1.set k (c, fr)) un1 lk1 fs hs R td ∧ Mo w (fun q => s.own V b q ∨ vown (.slice av c.length cv) q) (wc.setCell ⟨gC, k * 2, none⟩ (.slice av c.length cv)) (s1.own (V1.set k (.slice av c.length cv)) b)) := ⟨hset.1, (⟨hmo.os, hmo.tape, hmo.output, hmo.size, fun q h1 h2 => hmo.block q h1 fun h3 => h2 (.inl h3), fun q h1 => h1.elim (fun h2 => (hmo.new q h2).imp .inl id) (fun h2 => .inl (.inr h2))⟩ : Mo w (fun q => s.own V b q ∨ vown (.slice av c.length cv) q) wc (fun q => s1.own V1 b q ∨ vown (.slice av c.length cv) q)).trans hset.2⟩
    have HK : Hid (Wa n cl1 lk1 fs ch ∧ Frs (cl1.set k (c, fr)) ∧ lts cl1 k = [] ∧ 0 < k ∧ k < cl1.length ∧ (∀ j, lts cl1 j = lts cl j) ∧ cl1.length ≤ cl.length + 1 ∧ Uok un1 (cl1.set k (c, fr)) ∧ k ∉ un1 ∧ s1.M = s.M ∧ s1.D = s.D ∧ (V1.set k (.slice av c.length cv)).getD k nilS = .slice av c.length cv) := ⟨hw, hfr.set hfr4, hk0, hkp, hkl, hls, hcl1, ⟨hu.1, fun x hx => by
      have h3 := hu.2 x hx
      refine ⟨h3.1, by rw [List.length_set]; exact h3.2.1, ?_⟩
      rw [lts_set_ne (fun e => hnu (by rw [← e]; exact hx))]; exact h3.2.2⟩, hnu, hsM, hsD, by rw [List.getD_eq_getElem?_getD, List.getElem?_set_self (by rw [hz.vl]; exact hkl)]; rfl⟩
    have hkb : k < 1073741825 := by have := HC.out.2.2.2.1; omega
    have hNC : cl1.length ≤ 1073741824 := by have := HC.out.2.2.2.1; omega
    have hw2k : IntKind.i32.wrap (2 * (k : Int)) = 2 * (k : Int) := by rw [wrap_i32']; omega
    have hwk : IntKind.i64.wrap (k : Int) = (k : Int) := by rw [IntKind.wrap_i64]; omega
    have hw2k1 : IntKind.i32.wrap (2 * (k : Int) + 1) = 2 * (k : Int) + 1 := by rw [wrap_i32']; omega
    have hcA : (2 * (k : Int)) = ((2 * k : Nat) : Int) := by omega
    have hcB : (2 * (k : Int) + 1) = ((2 * k + 1 : Nat) : Int) := by omega
    have HCA : Hid ((2 * (k : Int)) = ((2 * k : Nat) : Int) ∧ (2 * (k : Int) + 1) = ((2 * k + 1 : Nat) : Int)) := ⟨hcA, hcB⟩
    clear hcA hcB
    obtain ⟨LC, hLC⟩ : ∃ LC, cl1.length = LC := ⟨_, rfl⟩
    rw [hLC] at e2 q1 hkl hNC
    have HLC : Hid (cl1.length = LC) := hLC
    clear hz hmo hw hfr hk0 hls hcl1 hu hnu hsM hsD hc1 eC1 rC hset hfr0 hLC b2 b3
    by_cases hl2 : 1 < c.length
    · have hc2 : 2 ≤ c.length := hl2
      have m0 : c.getD 0 0 ∈ c := getD_mem0 (by omega)
      have m1 : c.getD 1 0 ∈ c := getD_mem0 (by omega)
      obtain ⟨i0, hi0⟩ := idx_nat (HC.out.2.1 _ m0).1
      obtain ⟨i1, hi1⟩ := idx_nat (HC.out.2.1 _ m1).1
      obtain ⟨hwa, hne, hn0, hn1⟩ := HK.out.1.add2 (fr := fr) HK.out.2.2.2.1 HK.out.2.2.2.2.1 HK.out.2.2.1 hc2 HC.out.2.1 HC.out.2.2.1 hi0 hi1
      have htw := HK.out.1.two
      have el : lts (cl1.set k (c, fr)) k = c := lts_set_self HK.out.2.2.2.2.1
      have HE0 : Hid (∀ W, Below (wc.setCell ⟨gC, k * 2, none⟩ (.slice av c.length cv)).heap.size (wc.setCell ⟨gC, k * 2, none⟩ (.slice av c.length cv)) W → Calls Tryz.prog 79 #[.pointer (some ⟨b, 1, none⟩), .int .i32 (2 * (k : Int))] W fun e w' => e = .returned (.tuple #[]) ∧ LkS B b s1 (V1.set k (.slice av c.length cv)) (cl1.set k (c, fr)) un1 (enL lk1 ((ch i0).headD 0) (2 * k)) (fs.set i0 (2 * k)) hs R td W w') := fun W hW => by
        rw [HCA.out.1]
        exact fEnlist_any (2 * k) i0 ((ch i0).headD 0) W (HX.out.1.below hW) (by rw [show 2 * k / 2 = k by omega, el]; exact hc2) (by rw [List.length_set]; exact htw) (by rw [List.length_set, HLC.out]; exact hNC) (by rw [htw, HLC.out]; omega) (by rw [show 2 * k / 2 = k by omega, show 2 * k % 2 = 0 by omega, el]; exact (HC.out.2.1 _ m0).1) (by rw [show 2 * k / 2 = k by omega, show 2 * k % 2 = 0 by omega, el]; exact hi0) (HK.out.1.c.hd i0 hn0) (HK.out.1.c.hlt (by rw [htw, HLC.out]; omega) i0) (by rw [HC.out.2.2.2.2.2.1]; exact HC.out.2.2.2.2.2.2)
      have HE1 : Hid (∀ W W0, LkS B b s1 (V1.set k (.slice av c.length cv)) (cl1.set k (c, fr)) un1 (enL lk1 ((ch i0).headD 0) (2 * k)) (fs.set i0 (2 * k)) hs R td W0 W → Mo w (fun q => s.own V b q ∨ vown (.slice av c.length cv) q) W0 (s1.own (V1.set k (.slice av c.length cv)) b) → Calls Tryz.prog 79 #[.pointer (some ⟨b, 1, none⟩), .int .i32 (2 * (k : Int) + 1)] W fun e w' => e = .returned (.tuple #[]) ∧ KeS B b s V cl n hs R td (.slice av c.length cv) c w w' k) := fun W W0 hW hM0 => by
        rw [HCA.out.2]
        refine (fEnlist_any (2 * k + 1) i1 ((ch i1).headD 0) W hW.1 (by rw [show (2 * k + 1) / 2 = k by omega, el]; exact hc2) (by rw [enL_len, List.length_set]; exact htw) (by rw [List.length_set, HLC.out]; exact hNC) (by rw [enL_len, htw, HLC.out]; omega) (by rw [show (2 * k + 1) / 2 = k by omega, show (2 * k + 1) % 2 = 1 by omega, el]; exact (HC.out.2.1 _ m1).1) (by rw [show (2 * k + 1) / 2 = k by omega, show (2 * k + 1) % 2 = 1 by omega, el]; exact hi1) (by rw [List.getElem?_set_ne hne]; exact HK.out.1.c.hd i1 hn1) (by rw [enL_len]; exact HK.out.1.c.hlt (by rw [htw, HLC.out]; omega) i1) (by rw [List.length_set, HC.out.2.2.2.2.2.1]; exact HC.out.2.2.2.2.2.2)).mono fun e w' h => ?_
        exact ⟨h.1, s1, _, cl1, un1, _, _, _, fr, h.2.1, (hM0.trans hW.2).trans h.2.2, hwa, HK.out.2.1, HK.out.2.2.1, HK.out.2.2.2.1, HK.out.2.2.2.2.1, HK.out.2.2.2.2.2.1, HK.out.2.2.2.2.2.2.1, HK.out.2.2.2.2.2.2.2.1, HK.out.2.2.2.2.2.2.2.2.1, HK.out.2.2.2.2.2.2.2.2.2.1, HK.out.2.2.2.2.2.2.2.2.2.2⟩
      have hcl2 : (1 : Int) < (c.length : Int) := by omega
      clear hwa hne hn0 hn1 htw el hi0 hi1 m0 m1 hc2
      go_wp2_with (first | (go_at_call 79; first | (have hq := H5.out; refine (HE1.out _ _ H5.out HX.out.2).mono ?_; rintro e w6 ⟨rfl, hh⟩; have H6 : Hid (KeS B b s V cl n hs R td (.slice av c.length cv) c w w6 k) := hh; clear hh hq) | (refine (HE0.out _ (Below.refl _ _)).mono ?_; rintro e w5 ⟨rfl, hh⟩; have H5 : Hid (LkS B b s1 (V1.set k (.slice av c.length cv)) (cl1.set k (c, fr)) un1 (enL lk1 ((ch i0).headD 0) (2 * k)) (fs.set i0 (2 * k)) hs R td (wc.setCell ⟨gC, k * 2, none⟩ (.slice av c.length cv)) w5) := hh; clear hh)))
      go_ret
      exact ⟨k, rfl, H6.out⟩
    · have hwa := HK.out.1.add0 (fr := fr) (c := c) HK.out.2.2.2.1 HK.out.2.2.2.2.1 HK.out.2.2.1 (by omega) HC.out.2.1
      have HF : Hid (KeS B b s V cl n hs R td (.slice av c.length cv) c w (wc.setCell ⟨gC, k * 2, none⟩ (.slice av c.length cv)) k) := ⟨s1, _, cl1, un1, lk1, fs, ch, fr, HX.out.1, HX.out.2, hwa, HK.out.2.1, HK.out.2.2.1, HK.out.2.2.2.1, HK.out.2.2.2.2.1, HK.out.2.2.2.2.2.1, HK.out.2.2.2.2.2.2.1, HK.out.2.2.2.2.2.2.2.1, HK.out.2.2.2.2.2.2.2.2.1, HK.out.2.2.2.2.2.2.2.2.2.1, HK.out.2.2.2.2.2.2.2.2.2.2⟩
      have hcl2 : ¬ (1 : Int) < (c.length : Int) := by omega
      clear hwa
      go_wp2
      go_ret
      exact ⟨k, rfl, HF.out⟩
end
end Go.Proofs.YtjajafeaengnjaaGreatDoor
set_option linter.unusedSimpArgs false
set_option linter.unusedVariables false
namespace Go.Proofs.YtjajafeaengnjaaGreatDoor
open Go Go.RowKit

/-- the clash, as it lies -/
def Fcz (B : Nat) (W : World) (b : Nat) (M : Value) (D : Bool) : Prop := W.heap[b]? = some (.cells #[M, .bool true, .slice none 0 0, .slice none 0 0, .slice none 0 0, .slice none 0 0, .slice none 0 0, .slice none 0 0, .int .i64 0, .bool D] 65 (0, 0)) ∧ B ≤ b
/-- the closing turned into a clash -/
def clW (W : World) (b : Nat) : World := ((((((((W.setCell ⟨b, 1, none⟩ (.bool true)).setCell ⟨b, 2, none⟩ (.slice none 0 0)).setCell ⟨b, 3, none⟩ (.slice none 0 0)).setCell ⟨b, 4, none⟩ (.slice none 0 0)).setCell ⟨b, 5, none⟩ (.slice none 0 0)).setCell ⟨b, 6, none⟩ (.slice none 0 0)).setCell ⟨b, 7, none⟩ (.slice none 0 0)).setCell ⟨b, 8, none⟩ (.int .i64 0))
section
variable {B b : Nat} {W : World} {s : Sf} {V : List Value} {cl : Fcl} {un : List Nat} {lk : List (Nat × Nat)} {fs : List Nat} {hs : List Bool} {R : List Int} {td : Nat}
theorem clash_box {M C U L F H R T : Value} {D : Bool} (h : W.heap[b]? = some (.cells #[M, .bool false, C, U, L, F, H, R, T, .bool D] 65 (0, 0))) : (clW W b).heap[b]? = some (.cells #[M, .bool true, .slice none 0 0, .slice none 0 0, .slice none 0 0, .slice none 0 0, .slice none 0 0, .slice none 0 0, .int .i64 0, .bool D] 65 (0, 0)) := by
  unfold clW
  have h1 : (W.setCell ⟨b, 1, none⟩ (.bool true)).heap[b]? = some (.cells #[M, .bool true, C, U, L, F, H, R, T, .bool D] 65 (0, 0)) := set_heap h 1 _
  generalize W.setCell ⟨b, 1, none⟩ (.bool true) = W1 at h1 ⊢
  have h2 : (W1.setCell ⟨b, 2, none⟩ (.slice none 0 0)).heap[b]? = some (.cells #[M, .bool true, .slice none 0 0, U, L, F, H, R, T, .bool D] 65 (0, 0)) := set_heap h1 2 _
  generalize W1.setCell ⟨b, 2, none⟩ (.slice none 0 0) = W2 at h2 ⊢
  have h3 : (W2.setCell ⟨b, 3, none⟩ (.slice none 0 0)).heap[b]? = some (.cells #[M, .bool true, .slice none 0 0, .slice none 0 0, L, F, H, R, T, .bool D] 65 (0, 0)) := set_heap h2 3 _
  generalize W2.setCell ⟨b, 3, none⟩ (.slice none 0 0) = W3 at h3 ⊢
  have h4 : (W3.setCell ⟨b, 4, none⟩ (.slice none 0 0)).heap[b]? = some (.cells #[M, .bool true, .slice none 0 0, .slice none 0 0, .slice none 0 0, F, H, R, T, .bool D] 65 (0, 0)) := set_heap h3 4 _
  generalize W3.setCell ⟨b, 4, none⟩ (.slice none 0 0) = W4 at h4 ⊢
  have h5 : (W4.setCell ⟨b, 5, none⟩ (.slice none 0 0)).heap[b]? = some (.cells #[M, .bool true, .slice none 0 0, .slice none 0 0, .slice none 0 0, .slice none 0 0, H, R, T, .bool D] 65 (0, 0)) := set_heap h4 5 _
  generalize W4.setCell ⟨b, 5, none⟩ (.slice none 0 0) = W5 at h5 ⊢
  have h6 : (W5.setCell ⟨b, 6, none⟩ (.slice none 0 0)).heap[b]? = some (.cells #[M, .bool true, .slice none 0 0, .slice none 0 0, .slice none 0 0, .slice none 0 0, .slice none 0 0, R, T, .bool D] 65 (0, 0)) := set_heap h5 6 _
  generalize W5.setCell ⟨b, 6, none⟩ (.slice none 0 0) = W6 at h6 ⊢
  have h7 : (W6.setCell ⟨b, 7, none⟩ (.slice none 0 0)).heap[b]? = some (.cells #[M, .bool true, .slice none 0 0, .slice none 0 0, .slice none 0 0, .slice none 0 0, .slice none 0 0, .slice none 0 0, T, .bool D] 65 (0, 0)) := set_heap h6 7 _
  generalize W6.setCell ⟨b, 7, none⟩ (.slice none 0 0) = W7 at h7 ⊢
  exact set_heap h7 8 _
theorem Fwz.clash (h : Fwz B W b s V cl un lk fs hs R td) : Fcz B (clW W b) b s.M s.D ∧ Mo W (fun k => k = b) (clW W b) (fun k => k = b) := by
  refine ⟨⟨clash_box h.box, h.hb⟩, ?_⟩
  unfold clW
  have st : ∀ (X : World) (j : Nat) (x : Value), Mo X (fun k => k = b) (X.setCell ⟨b, j, none⟩ x) (fun k => k = b) := fun X j x => Mo.set X b j x rfl
  refine Mo.trans ?_ (st _ 8 _)
  refine Mo.trans ?_ (st _ 7 _)
  refine Mo.trans ?_ (st _ 6 _)
  refine Mo.trans ?_ (st _ 5 _)
  refine Mo.trans ?_ (st _ 4 _)
  refine Mo.trans ?_ (st _ 3 _)
  refine Mo.trans ?_ (st _ 2 _)
  exact st _ 1 _
end
/-- what enter leaves: at rest -/
def EnR (B b : Nat) (s : Sf) (V : List Value) (cl : Fcl) (n : Nat) (R : List Int) (vc : Value) (c : List Int) (w w' : World) (k : Nat) : Prop :=
  ∃ s' V' un' cl1 cl2 n' R' c' fr, Fre B w' b s' V' un' cl2 n' R' ∧ Fpm (cl1.set k (c', fr)) cl2 ∧ c'.Perm c ∧ lts cl1 k = [] ∧ 0 < k ∧ k < cl1.length ∧ (∀ j, lts cl1 j = lts cl j) ∧ cl1.length ≤ cl.length + 1 ∧ Uok un' cl2 ∧ k ∉ un' ∧ s'.M = s.M ∧ s'.D = s.D ∧ Mo w (fun q => s.own V b q ∨ vown vc q) w' (s'.own V' b) ∧ c ≠ []
/-- a clash -/
def EnC (B b : Nat) (s : Sf) (V : List Value) (cl : Fcl) (vc : Value) (c : List Int) (w w' : World) : Prop :=
  Fcz B w' b s.M s.D ∧ (∀ A : List (List Int), (∀ d ∈ cssOf cl, ∃ d' ∈ A, ∀ x, x ∈ d ↔ x ∈ d') → (∃ d ∈ A, ∀ x, x ∈ d ↔ x ∈ c) → Cla A []) ∧ Mo w (fun q => s.own V b q ∨ vown vc q) w' (fun q => q = b)
def EnS (B b : Nat) (s : Sf) (V : List Value) (cl : Fcl) (n : Nat) (R : List Int) (vc : Value) (c : List Int) (w : World) (e : Ending) (w' : World) : Prop :=
  ∃ k : Nat, e = .returned (.int .i32 (k : Int)) ∧ (EnR B b s V cl n R vc c w w' k ∨ (k = 0 ∧ EnC B b s V cl vc c w w'))
theorem Mo.both {w w' : World} {P P' Q : Nat → Prop} (h : Mo w P w' P') : Mo w (fun k => P k ∨ Q k) w' (fun k => P' k ∨ Q k) := ⟨h.os, h.tape, h.output, h.size, fun q h1 h2 => h.block q h1 fun h3 => h2 (.inl h3), fun q h1 => h1.elim (fun h2 => (h.new q h2).imp .inl id) (fun h2 => .inl (.inr h2))⟩
theorem Mo.right {w w' : World} {P Q : Nat → Prop} (h : Mo w Q w' Q) : Mo w (fun k => P k ∨ Q k) w' (fun k => P k ∨ Q k) := ⟨h.os, h.tape, h.output, h.size, fun q h1 h2 => h.block q h1 fun h3 => h2 (.inr h3), fun q h1 => .inl h1⟩
theorem Mo.less {w w' : World} {P Q Q' : Nat → Prop} (h : Mo w P w' Q) (hs : ∀ k, Q' k → Q k) : Mo w P w' Q' := ⟨h.os, h.tape, h.output, h.size, h.block, fun q h1 => h.new q (hs q h1)⟩
theorem Mo.more {w w' : World} {P P2 Q : Nat → Prop} (h : Mo w P w' Q) (hs : ∀ k, P k → P2 k) : Mo w P2 w' Q := ⟨h.os, h.tape, h.output, h.size, fun q h1 h2 => h.block q h1 fun h3 => h2 (hs q h3), fun q h1 => (h.new q h1).imp (hs q) id⟩
theorem css_same {cl cl1 : Fcl} (hls : ∀ j, lts cl1 j = lts cl j) {d : List Int} (h : d ∈ cssOf cl) : d ∈ cssOf cl1 := by
  obtain ⟨h0, k, _, e⟩ := mem_cssOf.1 h
  exact mem_cssOf.2 ⟨h0, k, lts_in (by rw [hls, e]; exact h0), (hls k).trans e⟩
theorem enter_to {n k m fr : Nat} {cl cl1 : Fcl} {lk lk' : List (Nat × Nat)} {fs fs' : List Nat} {ch ch' : Nat → List Nat} {R c : List Int} (h : Rs n cl lk fs ch R) (hls : ∀ j, lts cl1 j = lts cl j) (h0 : lts cl1 k = []) (hkl : k < cl1.length) (hw : Wa n (cl1.set k (c, fr)) lk' fs' ch') (hm : Fwd R c m) (h1 : 1 ≤ m) :
    To n (cl1.set k (c, fr)) (cl1.set k (c, fr)) lk' fs' ch' (ahd R c m) (ahd R c m) R.length [] ∧ (∀ j l, lts (cl1.set k (c, fr)) j = [l] → l ∈ ahd R c m) ∧ ∀ x ∈ ahd R c m, Der (cssOf (cl1.set k (c, fr))) [] x := by
  have hqt : Qt cl1 R R := fun j hj e he hq => by rw [hls] at hj hq ⊢; exact h.qt j hj e he hq
  have hone : ∀ j l, lts cl1 j = [l] → l ∈ R := fun j l e => h.one j l (by rw [← hls]; exact e)
  have hder : ∀ x ∈ R, Der (cssOf cl1) [] x := fun x hx => (h.der x hx).mono (fun d hd => ⟨d, css_same hls hd, fun _ => Iff.rfl⟩) (by simp)
  have hlen := hm.len
  have m0 : c.getD 0 0 ∈ c := getD_mem0 (by omega)
  have hl0 := hw.lit k (c.getD 0 0) (by rw [lts_set_self hkl]; exact m0)
  have hcin : c ∈ cssOf (cl1.set k (c, fr)) := (mem_css_add h0 hkl).2 (.inr ⟨rfl, by intro e; rw [e] at m0; simp at m0⟩)
  have hsub : ∀ x ∈ R, x ∈ ahd R c m := fun x hx => by
    unfold ahd; split
    · exact List.mem_append.2 (.inl hx)
    · exact hx
  have hin : m = 1 → c.getD 0 0 ∈ ahd R c m := fun e => by
    unfold ahd
    by_cases hc : c.getD 0 0 ∈ R
    · rw [if_neg (fun q => q.2 hc)]; exact hc
    · rw [if_pos ⟨e, hc⟩]; simp
  have hrk : Frk n (ahd R c m) := by
    unfold ahd; split
    · rename_i e; exact h.rk.put e.2 (hm.non 0 (by omega)) hl0.1 hl0.2
    · exact h.rk
  have htk : (ahd R c m).take R.length = R := by unfold ahd; split <;> simp
  refine ⟨⟨hw, .refl _, hrk, List.prefix_refl _, ?_, ?_, ?_, by simp, fun x hx => .fact hx⟩, fun j l e => ?_, fun x hx => ?_⟩
  · unfold ahd; split <;> simp
  · rw [htk]
    intro j hj e he hq
    by_cases ej : j = k
    · subst ej
      rw [lts_set_self hkl] at hj hq ⊢
      by_cases em : m = 2
      · exact absurd hq (hm.non e (by omega))
      · have em1 : m = 1 := by have := hm.two; omega
        by_cases ee : e = 0
        · exact absurd hq (hm.non e (by omega))
        · rw [show 1 - e = 0 by omega]; exact hin em1
    · rw [lts_set_ne ej] at hj hq ⊢
      exact hsub _ (hqt j hj e he hq)
  · intro j hj e he hq; simp at hq
  · by_cases ej : j = k
    · subst ej
      rw [lts_set_self hkl] at e
      have e2 : c = [l] := e
      have em : m = 1 := by rw [e2] at hlen; simp at hlen; omega
      have := hin em
      rw [e2] at this ⊢
      simpa using this
    · rw [lts_set_ne ej] at e; exact hsub _ (hone j l e)
  · have old : ∀ y ∈ R, Der (cssOf (cl1.set k (c, fr))) [] y := fun y hy => (hder y hy).add h0 hkl
    unfold ahd at hx
    split at hx
    · rename_i e
      rcases List.mem_append.1 hx with a | a
      · exact old x a
      · rw [show x = c.getD 0 0 by simpa using a]
        have hm1 := hm
        rw [e.1] at hm1
        exact .unit hcin m0 fun l hl hne => old _ (hm1.ones l hl hne)
    · exact old x hx
theorem en_none {n : Nat} {cl : Fcl} {lk : List (Nat × Nat)} {fs : List Nat} {ch : Nat → List Nat} {R c c' : List Int} (h : Rs n cl lk fs ch R) (hm : Fwd R c' 0) (hp : c'.Perm c) (A : List (List Int)) (hA : ∀ d ∈ cssOf cl, ∃ d' ∈ A, ∀ x, x ∈ d ↔ x ∈ d') (hc : ∃ d ∈ A, ∀ x, x ∈ d ↔ x ∈ c) : Cla A [] := by
  obtain ⟨d, hd, hx⟩ := hc
  exact .inr ⟨d, hd, fun l hl => (h.der _ (hm.none l (hp.mem_iff.2 ((hx l).1 hl)))).mono hA (by simp)⟩
theorem en_cla {k fr : Nat} {cl cl1 : Fcl} {R0 c c' : List Int} (hls : ∀ j, lts cl1 j = lts cl j) (h0 : lts cl1 k = []) (hkl : k < cl1.length) (hp : c'.Perm c) (hcl : Cla (cssOf (cl1.set k (c', fr))) R0) (hd : ∀ x ∈ R0, Der (cssOf (cl1.set k (c', fr))) [] x) (A : List (List Int)) (hA : ∀ d ∈ cssOf cl, ∃ d' ∈ A, ∀ x, x ∈ d ↔ x ∈ d') (hc : ∃ d ∈ A, ∀ x, x ∈ d ↔ x ∈ c) : Cla A [] :=
  (hcl.trans hd).mono (fun d hd => by
    rcases (mem_css_add h0 hkl).1 hd with a | a
    · exact hA d (css_same (fun j => (hls j).symm) a)
    · obtain ⟨d', h1, h2⟩ := hc
      exact ⟨d', h1, fun x => by rw [a.1, h2 x]; exact hp.mem_iff⟩) (by simp)
/-- all but the clash that is to be stored -/
def EnF (B b : Nat) (s : Sf) (V : List Value) (cl : Fcl) (vc : Value) (c : List Int) (w w5 : World) : Prop :=
  ∃ s5 V5 cl5 un5 lk5 fs5 hs5 R5 td5, Fwz B w5 b s5 V5 cl5 un5 lk5 fs5 hs5 R5 td5 ∧ Mo w (fun q => s.own V b q ∨ vown vc q) w5 (s5.own V5 b) ∧ s5.M = s.M ∧ s5.D = s.D ∧ (∀ A : List (List Int), (∀ d ∈ cssOf cl, ∃ d' ∈ A, ∀ x, x ∈ d ↔ x ∈ d') → (∃ d ∈ A, ∀ x, x ∈ d ↔ x ∈ c) → Cla A [])
theorem EnF.fin {B b : Nat} {s : Sf} {V : List Value} {cl : Fcl} {vc : Value} {c : List Int} {w w5 : World} (h : EnF B b s V cl vc c w w5) : EnC B b s V cl vc c w (clW w5 b) := by
  obtain ⟨s5, V5, cl5, un5, lk5, fs5, hs5, R5, td5, hz, hmo, e1, e2, hA⟩ := h
  have hc := hz.clash
  rw [e1, e2] at hc
  exact ⟨hc.1, hA, (hmo.less fun q hq => .inl hq).trans hc.2⟩
/-- what is there ahead of the telling -/
def EnK (B b : Nat) (s : Sf) (V V3 : List Value) (vc : Value) (cl0 : Fcl) (un3 : List Nat) (lk3 : List (Nat × Nat)) (fs3 : List Nat) (n : Nat) (R : List Int) (td : Nat) (w w4 : World) : Prop :=
  ∃ s4 : Sf, Fwz B w4 b s4 V3 cl0 un3 lk3 fs3 (inLs n R) R td ∧ Mo w (fun q => s.own V b q ∨ vown vc q) w4 (s4.own V3 b) ∧ s4.M = s.M ∧ s4.D = s.D
/-- what the telling leaves -/
def EnT (B b : Nat) (s : Sf) (V : List Value) (cl : Fcl) (n : Nat) (R : List Int) (vc : Value) (c : List Int) (w w' : World) (k : Nat) (ok : Bool) : Prop :=
  (∃ s5 V5 cl5 un5 lk5 fs5 hs5 R5 td5, Fwz B w' b s5 V5 cl5 un5 lk5 fs5 hs5 R5 td5) ∧ (ok = true → EnR B b s V cl n R vc c w w' k) ∧ (ok = false → EnF B b s V cl vc c w w')
theorem knw_ahd {R c : List Int} : knw R (c.getD 0 0) = ahd R c 1 := by
  unfold knw ahd
  by_cases h : c.getD 0 0 ∈ R <;> simp [h]
theorem Uok.pm {un : List Nat} {cl cl' : Fcl} (h : Uok un cl) (hp : Fpm cl cl') : Uok un cl' := ⟨h.1, fun u hu => by
  have := h.2 u hu
  have h2 := hp.2 u
  rw [this.2.2] at h2
  exact ⟨this.1, by rw [hp.1]; exact this.2.1, List.Perm.eq_nil h2⟩⟩
theorem en_tell {B b n n' k m fr : Nat} {s : Sf} {V V3 : List Value} {vc : Value} {cl cl1 : Fcl} {un3 : List Nat} {lk lk3 : List (Nat × Nat)} {fs fs3 : List Nat} {ch ch3 : Nat → List Nat} {R c c' : List Int} {w w4 : World} (h4 : EnK B b s V V3 vc (cl1.set k (c', fr)) un3 lk3 fs3 n' (ahd R c' m) R.length w w4) (hrs : Rs n' cl lk fs ch R) (hls : ∀ j, lts cl1 j = lts cl j) (h0 : lts cl1 k = []) (hk0 : 0 < k) (hkl : k < cl1.length) (hw : Wa n' (cl1.set k (c', fr)) lk3 fs3 ch3) (hfr : Frs (cl1.set k (c', fr))) (hm : Fwd R c' m) (h1 : 1 ≤ m) (hp : c'.Perm c) (hcl1 : cl1.length ≤ cl.length + 1) (hu : Uok un3 (cl1.set k (c', fr))) (hnu : k ∉ un3) (hc31 : cl1.length ≤ 1073741824) (hB : B ≤ w.heap.size) :
    Calls Tryz.prog 68 #[.pointer (some ⟨b, 1, none⟩)] w4 fun e w' => ∃ ok, e = .returned (.bool ok) ∧ EnT B b s V cl n R vc c w w' k ok := by
  obtain ⟨s4, hz, hmo, e1, e2⟩ := h4
  obtain ⟨t1, t2, t3⟩ := enter_to hrs hls h0 hkl hw hm h1
  refine (fTell_any w4 hz t1 hfr (by rw [List.length_set]; exact hc31) (Nat.le_trans hB hmo.size)).mono fun e w' hh => ?_
  obtain ⟨ok, rfl, u, cl2, lk2, fs2, ch2, R2, td2, hz2, hmo2, hfr2, hlen2, hrk2, hpre, hor⟩ := hh
  refine ⟨ok, rfl, ⟨_, _, _, _, _, _, _, _, _, hz2⟩, fun eo => ?_, fun eo => ?_⟩
  · rcases hor with ⟨_, hto, hle⟩ | ⟨h, _⟩
    · have htd : td2 = R2.length := Nat.le_antisymm hto.tl hle
      subst htd
      exact ⟨_, V3, un3, cl1, cl2, n', R2, c', fr, ⟨lk2, fs2, ch2, hz2, hto.rest hle t2 t3, hfr2⟩, hto.pm, hp, h0, hk0, hkl, hls, hcl1, hu.pm hto.pm, hnu, e1, e2, hmo.trans hmo2, fun e => by
        have h1' := hp.length_eq
        have h2' := hm.len
        rw [e] at h1'
        simp at h1'
        rw [h1'] at h2'
        simp at h2'
        omega⟩
    · rw [eo] at h; exact absurd h (by simp)
  · rcases hor with ⟨h, _⟩ | ⟨_, hc, _⟩
    · rw [eo] at h; exact absurd h (by simp)
    · exact ⟨_, V3, cl2, un3, lk2, fs2, _, R2, td2, hz2, hmo.trans hmo2, e1, e2, en_cla hls h0 hkl hp hc t3⟩
section
variable {B b : Nat} {s : Sf} {V : List Value} {cl : Fcl} {un : List Nat} {R c : List Int} {n : Nat}
set_option maxRecDepth 100000 in
set_option maxHeartbeats 1600000 in
theorem fEnter_any (w : World) (vc : Value) (h : Fre B w b s V un cl n R) (hu : Uok un cl) (hc : Cro B w b s V vc c) (hs : c.all fmd = true) (hnd : c.Nodup) (hcl : cl.length < 1073741823) (hul : un.length ≤ 1073741824) (hpos : 0 < cl.length) (hlc : c.length ≤ 2097152) (hB : B ≤ w.heap.size) :
    Calls Tryz.prog 49 #[.pointer (some ⟨b, 1, none⟩), vc] w fun e w' => EnS B b s V cl n R vc c w e w' := by
  have hso : ∀ l ∈ c, fmd l = true := fun l hl => List.all_eq_true.1 hs l hl
  obtain ⟨lk, fs, ch, hz, hrs, hfr⟩ := h
  have c1 := hz.c1
  have HRo : Hid (Calls Tryz.prog 64 #[.pointer (some ⟨b, 1, none⟩), vc] w fun e w' => e = .returned (.tuple #[]) ∧ MrL B b s V un cl n R c w w' c.length) := fRoom_any w vc ⟨lk, fs, ch, hz, hrs, hfr⟩ hfr hc hs hlc hB
  have HC : Hid (Cro B w b s V vc c ∧ (∀ l ∈ c, fmd l = true) ∧ c.Nodup ∧ cl.length < 1073741823 ∧ un.length ≤ 1073741824 ∧ 0 < cl.length ∧ c.length ≤ 2097152 ∧ B ≤ w.heap.size ∧ Uok un cl ∧ Frs cl) := ⟨hc, hso, hnd, hcl, hul, hpos, hlc, hB, hu, hfr⟩
  obtain ⟨av, cv, rfl⟩ := row_form' hc.row
  clear hz hrs hfr hu hc hs hso hnd hcl hul hpos hB
  go_enter Tryz.func49, Tryz.ntmps49
  go_upto_region 4 with (go_at_call 64; refine HRo.out.mono ?_; rintro e w1 ⟨rfl, hh⟩; have HM : Hid (MrL B b s V un cl n R c w w1 c.length) := hh; clear hh)
  obtain ⟨uF, uH, n', lk, fs, ch, hz, hmo, hrs, hnn, had⟩ := HM.out
  have hc1 := HC.out.1.mo hmo
  have hli : ∀ l ∈ c, fmd l = true ∧ idx l < n' := fun l hl => by
    obtain ⟨m, hm, em⟩ := List.getElem_of_mem hl
    have em : c.getD m 0 = l := by rw [List.getD_eq_getElem?_getD, List.getElem?_eq_getElem hm]; exact em
    have := had m hm
    rw [em] at this
    exact ⟨HC.out.2.1 l hl, this⟩
  have HBr : Hid (Calls Tryz.prog 65 #[.pointer (some ⟨b, 1, none⟩), .slice av c.length cv] w1 fun e w' => ∃ m : Nat, e = .returned (.int .i64 (m : Int)) ∧ BrL B b { s with F := uF, H := uH } V cl un lk fs n' R c R.length (.slice av c.length cv) w1 w' c.length m) := fBring_any w1 _ hz hc1 hli hrs.wa.ev HC.out.2.2.2.2.2.2.1
  have H1 : Hid (Mo w (s.own V b) w1 (({ s with F := uF, H := uH } : Sf).own V b) ∧ Rs n' cl lk fs ch R ∧ (∀ l ∈ c, fmd l = true ∧ idx l < n') ∧ n' ≤ 2097152) := ⟨hmo, hrs, hli, hrs.wa.hn⟩
  clear hz hmo hrs hnn had hc1 hli HM HRo c1
  go_upto_region 5 with (go_at_call 65; refine HBr.out.mono ?_; rintro e w2 ⟨m, rfl, hh⟩; have HM : Hid (BrL B b { s with F := uF, H := uH } V cl un lk fs n' R c R.length (.slice av c.length cv) w1 w2 c.length m) := hh; clear hh)
  obtain ⟨c', hbr, hz, hcr, hmo⟩ := HM.out
  have hlen := hbr.len
  have HF : Hid (Fwd R c' m ∧ c'.Perm c ∧ c'.length = c.length) := ⟨hbr.fwd, hbr.pm, hlen⟩
  have hB2 : B ≤ w2.heap.size := Nat.le_trans HC.out.2.2.2.2.2.2.2.1 (Nat.le_trans H1.out.1.size hmo.size)
  have HKp : Hid (Calls Tryz.prog 66 #[.pointer (some ⟨b, 1, none⟩), .slice av c.length cv] w2 fun e w' => ∃ k : Nat, e = .returned (.int .i32 (k : Int)) ∧ KeS B b { s with F := uF, H := uH } V cl n' (inLs n' R) R R.length (.slice av c.length cv) c' w2 w' k) := fKeep_any w2 _ hz H1.out.2.1.wa HC.out.2.2.2.2.2.2.2.2.2 HC.out.2.2.2.2.2.2.2.2.1 hcr (fun l hl => H1.out.2.2.1 l (hbr.pm.mem_iff.1 hl)) (hbr.pm.nodup_iff.2 HC.out.2.2.1) (by have := HC.out.2.2.2.1; omega) HC.out.2.2.2.2.1 HC.out.2.2.2.2.2.1 (by rw [hlen]; exact HC.out.2.2.2.2.2.2.1) hB2
  have H2 : Hid (Mo w (fun q => s.own V b q ∨ vown (.slice av c.length cv) q) w2 (fun q => ({ s with F := uF, H := uH } : Sf).own V b q ∨ vown (.slice av c.length cv) q)) := H1.out.1.both.trans hmo.right
  clear hz hcr hmo hbr hlen HM HBr
  go_upto_region 6 with (go_at_call 66; refine HKp.out.mono ?_; rintro e w3 ⟨k, rfl, hh⟩; have HM : Hid (KeS B b { s with F := uF, H := uH } V cl n' (inLs n' R) R R.length (.slice av c.length cv) c' w2 w3 k) := hh; clear hh)
  obtain ⟨s3, V3, cl1, un3, lk3, fs3, ch3, fr, hz, hmo, hwa, hfr, hk0, hkp, hkl, hls, hcl1, hu3, hnu, hsM, hsD, hV⟩ := HM.out
  have H3 : Hid (Mo w (fun q => s.own V b q ∨ vown (.slice av c.length cv) q) w3 (s3.own V3 b)) := H2.out.trans hmo
  have HZ3 : Hid (Fwz B w3 b s3 V3 (cl1.set k (c', fr)) un3 lk3 fs3 (inLs n' R) R R.length) := hz
  have hB3 : B ≤ w3.heap.size := Nat.le_trans hB2 hmo.size
  have hm2 := HF.out.1.two
  have HT : Hid (1 ≤ m → ∀ w4, EnK B b s V V3 (.slice av c.length cv) (cl1.set k (c', fr)) un3 lk3 fs3 n' (ahd R c' m) R.length w w4 → Calls Tryz.prog 68 #[.pointer (some ⟨b, 1, none⟩)] w4 fun e w' => ∃ ok, e = .returned (.bool ok) ∧ EnT B b s V cl n R (.slice av c.length cv) c w w' k ok) := fun h1 w4 h4 => en_tell h4 H1.out.2.1 hls hk0 hkp hkl hwa hfr HF.out.1 h1 HF.out.2.1 hcl1 hu3 hnu (by have := HC.out.2.2.2.1; omega) HC.out.2.2.2.2.2.2.2.1
  have HE3 : Hid (s3.M = s.M ∧ s3.D = s.D) := ⟨hsM, hsD⟩
  have HV : Hid (V3.getD k nilS = .slice av c.length cv ∧ k < cl1.length ∧ B ≤ w3.heap.size) := ⟨hV, hkl, hB3⟩
  clear hz hmo hwa hfr hk0 hkp hkl hls hcl1 hu3 hnu hsM hsD hV HM HKp hB2 hB3
  obtain hm0 | hm1 | hm1 : m = 0 ∨ m = 1 ∨ m = 2 := by omega
  · subst hm0
    have HFi : Hid (EnC B b s V cl (.slice av c.length cv) c w (clW w3 b)) := EnF.fin ⟨s3, V3, _, un3, lk3, fs3, _, R, _, HZ3.out, H3.out, HE3.out.1, HE3.out.2, en_none H1.out.2.1 HF.out.1 HF.out.2.1⟩
    have hz := HZ3.out
    have e1 := hz.c1
    have e2 := hz.c2
    have e3 := hz.c3
    have e4 := hz.c4
    have e5 := hz.c5
    have e6 := hz.c6
    have e7 := hz.c7
    have e8 := hz.c8
    have f1 := hz.fz 1
    have f2 := hz.fz 2
    have f3 := hz.fz 3
    have f4 := hz.fz 4
    have f5 := hz.fz 5
    have f6 := hz.fz 6
    have f7 := hz.fz 7
    have f8 := hz.fz 8
    clear hz
    go_upto_region 9 with fail
    go_wp2
    go_ret
    exact ⟨0, rfl, .inr ⟨rfl, HFi.out⟩⟩
  · subst hm1
    have h0 : 0 < c'.length := HF.out.1.len
    have hrow : w3.ownsRow B 3 1 (.slice av c.length cv) c.length (i64s c') := by
      have h := HZ3.out.v k
      rw [HV.out.1, lts_set_self HV.out.2.1] at h
      rw [← HF.out.2.2]
      exact (by rw [← HF.out.2.2] at h; exact h)
    have hcl0 : 0 < c.length := by have := HF.out.2.2; omega
    obtain ⟨g, cap, eS, _⟩ := row_some hrow hcl0
    injection eS with q1 q2 q3
    subst q1 q3
    have kc : w3.cell? ⟨g, 0, none⟩ = some (.int .i64 (c'.getD 0 0)) := row_cell hrow (j := 0) (by unfold i64s; rw [List.getElem?_map, List.getD_eq_getElem?_getD, List.getElem?_eq_getElem h0]; rfl)
    have hm0 : c'.getD 0 0 ∈ c := HF.out.2.1.mem_iff.1 (getD_mem0 h0)
    have HKw : Hid (Calls Tryz.prog 67 #[.pointer (some ⟨b, 1, none⟩), .int .i64 (c'.getD 0 0)] w3 fun e w' => e = .returned (.tuple #[]) ∧ KnS B b s3 V3 (cl1.set k (c', fr)) un3 lk3 fs3 n' (knw R (c'.getD 0 0)) R.length w3 w') := fKnow_any _ w3 HZ3.out (H1.out.2.2.1 _ hm0).1 (H1.out.2.2.1 _ hm0).2 H1.out.2.2.2 (by have := H1.out.2.1.rk.len; have := H1.out.2.2.2; omega) HV.out.2.2
    clear h0 hrow hm0
    go_upto_region 7 with fail
    go_upto_region 8 with (go_at_call 67; refine HKw.out.mono ?_; rintro e w4 ⟨rfl, hh⟩; have HM4 : Hid (KnS B b s3 V3 (cl1.set k (c', fr)) un3 lk3 fs3 n' (knw R (c'.getD 0 0)) R.length w3 w4) := hh; clear hh)
    have hek : EnK B b s V V3 (.slice (some ⟨g, 0, none⟩) c.length cv) (cl1.set k (c', fr)) un3 lk3 fs3 n' (ahd R c' 1) R.length w w4 := by
      obtain ⟨u, hz4, hmo4⟩ := HM4.out
      rw [knw_ahd] at hz4
      exact ⟨_, hz4, H3.out.trans hmo4, HE3.out.1, HE3.out.2⟩
    have HTe : Hid (Calls Tryz.prog 68 #[.pointer (some ⟨b, 1, none⟩)] w4 fun e w' => ∃ ok, e = .returned (.bool ok) ∧ EnT B b s V cl n R (.slice (some ⟨g, 0, none⟩) c.length cv) c w w' k ok) := HT.out (by omega) w4 hek
    clear hek kc
    go_wp2_with (go_at_call 68; refine HTe.out.mono ?_; rintro e w5 ⟨ok, rfl, hh⟩; have HM : Hid (EnT B b s V cl n R (.slice (some ⟨g, 0, none⟩) c.length cv) c w w5 k ok) := hh; clear hh; obtain ⟨s5, V5, cl5, un5, lk5, fs5, hs5, R5, td5, hz⟩ := HM.out.1; have e1 := hz.c1; have e2 := hz.c2; have e3 := hz.c3; have e4 := hz.c4; have e5 := hz.c5; have e6 := hz.c6; have e7 := hz.c7; have e8 := hz.c8; have f1 := hz.fz 1; have f2 := hz.fz 2; have f3 := hz.fz 3; have f4 := hz.fz 4; have f5 := hz.fz 5; have f6 := hz.fz 6; have f7 := hz.fz 7; have f8 := hz.fz 8; clear hz; cases ok)
    · go_ret
      exact ⟨0, rfl, .inr ⟨rfl, EnF.fin (HM.out.2.2 rfl)⟩⟩
    · go_ret
      exact ⟨k, rfl, .inl (HM.out.2.1 rfl)⟩
  · subst hm1
    have ea : ahd R c' 2 = R := if_neg (by simp)
    have hek : EnK B b s V V3 (.slice av c.length cv) (cl1.set k (c', fr)) un3 lk3 fs3 n' (ahd R c' 2) R.length w w3 := by rw [ea]; exact ⟨s3, HZ3.out, H3.out, HE3.out.1, HE3.out.2⟩
    have HTe : Hid (Calls Tryz.prog 68 #[.pointer (some ⟨b, 1, none⟩)] w3 fun e w' => ∃ ok, e = .returned (.bool ok) ∧ EnT B b s V cl n R (.slice av c.length cv) c w w' k ok) := HT.out (by omega) w3 hek
    clear ea hek
    go_wp2_with (go_at_call 68; refine HTe.out.mono ?_; rintro e w5 ⟨ok, rfl, hh⟩; have HM : Hid (EnT B b s V cl n R (.slice av c.length cv) c w w5 k ok) := hh; clear hh; obtain ⟨s5, V5, cl5, un5, lk5, fs5, hs5, R5, td5, hz⟩ := HM.out.1; have e1 := hz.c1; have e2 := hz.c2; have e3 := hz.c3; have e4 := hz.c4; have e5 := hz.c5; have e6 := hz.c6; have e7 := hz.c7; have e8 := hz.c8; have f1 := hz.fz 1; have f2 := hz.fz 2; have f3 := hz.fz 3; have f4 := hz.fz 4; have f5 := hz.fz 5; have f6 := hz.fz 6; have f7 := hz.fz 7; have f8 := hz.fz 8; clear hz; cases ok)
    · go_ret
      exact ⟨0, rfl, .inr ⟨rfl, EnF.fin (HM.out.2.2 rfl)⟩⟩
    · go_ret
      exact ⟨k, rfl, .inl (HM.out.2.1 rfl)⟩
end
end Go.Proofs.YtjajafeaengnjaaGreatDoor
set_option linter.unusedSimpArgs false
set_option linter.unusedVariables false
namespace Go.Proofs.YtjajafeaengnjaaGreatDoor
open Go Go.RowKit
theorem fls_le (R c : List Int) : fls R c ≤ c.length := by unfold fls; exact List.length_filter_le _ _
theorem fls_takele (R c : List Int) (k : Nat) : fls R (c.take k) ≤ c.length := Nat.le_trans (fls_le _ _) (by simp; omega)
section
variable {B b : Nat} {s : Sf} {V : List Value} {cl : Fcl} {un : List Nat} {lk : List (Nat × Nat)} {fs : List Nat} {R c : List Int} {n td : Nat}
set_option maxRecDepth 100000 in
set_option maxHeartbeats 1600000 in
theorem fNeeds_any (w : World) (vc : Value) (hz : Fwz B w b s V cl un lk fs (inLs n R) R td) (hc : Cro B w b s V vc c) (hl : ∀ l ∈ c, fmd l = true ∧ idx l < n) (hev : n % 2 = 0) (hlc : c.length ≤ 2097152) :
    Calls Tryz.prog 51 #[.pointer (some ⟨b, 1, none⟩), vc] w fun e w' => e = .returned (.bool (decide (fls R c + 1 = c.length))) ∧ Below w.heap.size w w' := by
  obtain ⟨av, cv, rfl⟩ := row_form' hc.row
  have c1 := hz.c1
  have HZ : Hid (Fwz B w b s V cl un lk fs (inLs n R) R td) := hz
  have HC : Hid (Cro B w b s V (.slice av c.length cv) c ∧ (∀ l ∈ c, fmd l = true ∧ idx l < n) ∧ n % 2 = 0) := ⟨hc, hl, hev⟩
  clear hz hc hl hev
  go_enter Tryz.func51, Tryz.ntmps51
  go_wp2_with fail
  go_loopg [5, 14] c.length (fun g nv iv wx => ∃ k : Nat, k + g = c.length ∧ nv = .int .i64 ((fls R (c.take k) : Nat) : Int) ∧ iv = .int .i64 (k : Int) ∧ Below w.heap.size w wx)
  case atStart => exact ⟨0, by omega, rfl, rfl, Below.refl _ _⟩
  case round =>
    obtain ⟨k, hk, rfl, rfl, hb⟩ := hrel
    have HK : Hid (k + gk = c.length) := hk
    have HB : Hid (Below w.heap.size w wr) := hb
    have hfb := fls_takele R c k
    by_cases hlt : k < c.length
    · obtain ⟨g, cap, ev, kc0, zc⟩ := HC.out.1.cell (j := k) hlt
      injection ev with e1 e2 e3
      subst e1 e3
      have kc := (hb.cell (p := ⟨g, k, none⟩) (World.block_lt_of_cell? w _ kc0)).trans kc0
      have hf := HC.out.2.1 _ (getD_mem0 hlt)
      have hst := fls_take (R := R) hlt
      obtain ⟨l, hl⟩ : ∃ l, c.getD k 0 = l := ⟨_, rfl⟩
      rw [hl] at kc hf hst
      have HIf : Hid (Calls Tryz.prog 69 #[.pointer (some ⟨b, 1, none⟩), .int .i64 l] wr fun e w' => e = .returned (.bool (decide (-l ∈ R))) ∧ Below wr.heap.size wr w') := fFalse_any l wr (HZ.out.below hb) hf.1 (idx_neg_lt hf.1 HC.out.2.2 hf.2)
      obtain ⟨f, hfe⟩ : ∃ f, fls R (c.take k) = f := ⟨_, rfl⟩
      rw [hfe] at hfb hst ⊢
      have hwf : wrap64 ((f : Int) + 1) = ((f + 1 : Nat) : Int) := by unfold wrap64; omega
      have HS : Hid (fls R (c.take (k + 1)) = f + if -l ∈ R then 1 else 0) := hst
      clear hb kc0 zc hl hf hk hst hfe
      by_cases hn : -l ∈ R
      · have HD : Hid (decide (-l ∈ R) = true) := decide_eq_true hn
        have he : fls R (c.take (k + 1)) = f + 1 := by rw [HS.out, if_pos hn]
        have HE : Hid (fls R (c.take (k + 1)) = f + 1) := he
        clear he
        clear hn
        go_wp2_with (go_at_call 69; refine HIf.out.mono ?_; rintro e w1 ⟨rfl, hb1⟩; rw [HD.out]; have HB1 : Hid (Below wr.heap.size wr w1) := hb1; clear hb1)
        go_roundg (gk - 1)
        case measure => have := HK.out; omega
        case rel => exact ⟨k + 1, by have := HK.out; omega, by rw [HE.out]; go_num, by go_num, Below.step HB.out HB1.out⟩
      · have HD : Hid (decide (-l ∈ R) = false) := decide_eq_false hn
        have he : fls R (c.take (k + 1)) = f := by rw [HS.out, if_neg hn]; rfl
        have HE : Hid (fls R (c.take (k + 1)) = f) := he
        clear he
        clear hn
        go_wp2_with (go_at_call 69; refine HIf.out.mono ?_; rintro e w1 ⟨rfl, hb1⟩; rw [HD.out]; have HB1 : Hid (Below wr.heap.size wr w1) := hb1; clear hb1)
        go_roundg (gk - 1)
        case measure => have := HK.out; omega
        case rel => exact ⟨k + 1, by have := HK.out; omega, by rw [HE.out], by go_num, Below.step HB.out HB1.out⟩
    · have ek : k = c.length := by omega
      subst ek
      rw [List.take_length] at hfb ⊢
      obtain ⟨f, hfe⟩ : ∃ f, fls R c = f := ⟨_, rfl⟩
      rw [hfe] at hfb ⊢
      have hwf : wrap64 ((c.length : Int) - 1) = (c.length : Int) - 1 := by unfold wrap64; omega
      have HFe : Hid (fls R c = f) := hfe
      have hde : ((f : Int) == (c.length : Int) - 1) = decide (f + 1 = c.length) := by
        rw [Bool.eq_iff_iff, beq_iff_eq, decide_eq_true_iff]; omega
      have HDe : Hid (((f : Int) == (c.length : Int) - 1) = decide (f + 1 = c.length)) := hde
      clear hfe hde
      go_wp2
      go_ret
      refine ⟨?_, HB.out⟩
      rw [HFe.out, ← HDe.out]
      rfl
end
end Go.Proofs.YtjajafeaengnjaaGreatDoor
set_option linter.unusedSimpArgs false
set_option linter.unusedVariables false
namespace Go.Proofs.YtjajafeaengnjaaGreatDoor
open Go Go.RowKit
theorem Mo.fit {w w' : World} {P P2 Q : Nat → Prop} (h : Mo w P w' Q) (hs : ∀ k, P k → P2 k) : Mo w P2 w' Q := h.more hs
section
variable {B b : Nat} {W : World} {s : Sf} {V : List Value} {cl : Fcl} {un : List Nat} {lk : List (Nat × Nat)} {fs : List Nat} {hs : List Bool} {R : List Int} {td n : Nat}
theorem Fwz.zap (h : Fwz B W b s V cl un lk fs hs R td) {g cap k : Nat} (hv : s.C = .slice (some ⟨g, 0, none⟩) cl.length cap) (hk : k < cl.length) :
    Fwz B ((W.setCell ⟨g, k * 2, none⟩ (.slice none 0 0)).setCell ⟨g, k * 2 + 1, none⟩ (.int .i64 0)) b s (V.set k nilS) (cl.set k ([], 0)) un lk fs hs R td ∧ Mo W (s.own V b) ((W.setCell ⟨g, k * 2, none⟩ (.slice none 0 0)).setCell ⟨g, k * 2 + 1, none⟩ (.int .i64 0)) (s.own (V.set k nilS) b) := by
  have hc : Cro B W b s V nilS [] := ⟨World.ownsRow_nil _ _ _ _, fun q _ e => by simp [nilS, Value.ownBlock] at e⟩
  obtain ⟨h1, m1⟩ := h.setL hv hk hc
  have h2 := h1.setG (g := g) (cap := cap) (k := k) (by rw [List.length_set]; exact hv) (by rw [List.length_set]; exact hk) 0
  rw [lts_set_self hk, List.set_set] at h2
  exact ⟨h2.1, (m1.fit fun q hq => hq.elim id fun e => by simp [vown, nilS, Value.ownBlock] at e).trans h2.2⟩
end
def LvS (B b : Nat) (s : Sf) (V : List Value) (un : List Nat) (cl : Fcl) (n : Nat) (R : List Int) (k : Nat) (w w' : World) : Prop :=
  ∃ s' V', Fre B w' b s' V' (un ++ [k]) (cl.set k ([], 0)) n R ∧ Uok (un ++ [k]) (cl.set k ([], 0)) ∧ s'.M = s.M ∧ s'.D = s.D ∧ Mo w (s.own V b) w' (s'.own V' b)
section
variable {B b : Nat} {s : Sf} {V : List Value} {cl : Fcl} {un : List Nat} {R : List Int} {n : Nat}
set_option maxRecDepth 100000 in
set_option maxHeartbeats 1600000 in
theorem fLeave_any (k : Nat) (w : World) (h : Fre B w b s V un cl n R) (hu : Uok un cl) (hc2 : 2 ≤ (lts cl k).length) (hnd : ¬ Need R (lts cl k)) (hcl : cl.length ≤ 1073741824) (hB : B ≤ w.heap.size) (hul : un.length ≤ 1073741824) :
    Calls Tryz.prog 52 #[.pointer (some ⟨b, 1, none⟩), .int .i32 (k : Int)] w fun e w' => e = .returned (.tuple #[]) ∧ LvS B b s V un cl n R k w w' := by
  obtain ⟨lk, fs, ch, hz, hrs, hfr⟩ := h
  obtain ⟨i0, i1, ch', hn0, hn1, hi0, hi1, hkl, hk0, ⟨q0, hq0, hq01, hq02⟩, ⟨q1, hq1, hq11, hq12⟩, hwg⟩ := hrs.wa.gone hc2
  have hrg := hrs.gone hwg hkl hnd
  have hfl := hrs.wa.c.len
  have htw := hrs.wa.two
  have hn2 := hrs.wa.hn
  have HS0 : Hid (Calls Tryz.prog 70 #[.pointer (some ⟨b, 1, none⟩), .int .i32 (2 * (k : Int))] w fun e w' => e = .returned (.tuple #[]) ∧ LkS B b s V cl un (skL lk (2 * k)) (skF lk fs (2 * k) i0) (inLs n R) R R.length w w') := by
    rw [show (2 * (k : Int)) = ((2 * k : Nat) : Int) by omega]
    exact fStrike_any (2 * k) i0 q0.1 q0.2 w hz (by rw [show 2 * k / 2 = k by omega]; exact hc2) htw hcl (by omega) (by rw [show 2 * k / 2 = k by omega, show 2 * k % 2 = 0 by omega]; exact hi0) (by omega) hq0 hq01 hq02 (by omega)
  have HS1 : Hid (∀ W, LkS B b s V cl un (skL lk (2 * k)) (skF lk fs (2 * k) i0) (inLs n R) R R.length w W → Calls Tryz.prog 70 #[.pointer (some ⟨b, 1, none⟩), .int .i32 (2 * (k : Int) + 1)] W fun e w' => e = .returned (.tuple #[]) ∧ LkS B b s V cl un (skL (skL lk (2 * k)) (2 * k + 1)) (skF (skL lk (2 * k)) (skF lk fs (2 * k) i0) (2 * k + 1) i1) (inLs n R) R R.length w w') := fun W hW => by
    rw [show (2 * (k : Int) + 1) = ((2 * k + 1 : Nat) : Int) by omega]
    exact (fStrike_any (2 * k + 1) i1 q1.1 q1.2 W hW.1 (by rw [show (2 * k + 1) / 2 = k by omega]; exact hc2) (by rw [skL_len]; exact htw) hcl (by rw [skL_len]; omega) (by rw [show (2 * k + 1) / 2 = k by omega, show (2 * k + 1) % 2 = 1 by omega]; exact hi1) (by rw [skF_len]; omega) hq1 (by rw [skL_len]; exact hq11) (by rw [skL_len]; exact hq12) (by rw [skF_len]; omega)).mono fun e w' hh => ⟨hh.1, hW.step hh.2⟩
  have HR : Hid (Rs n (cl.set k ([], 0)) (skL (skL lk (2 * k)) (2 * k + 1)) (skF (skL lk (2 * k)) (skF lk fs (2 * k) i0) (2 * k + 1) i1) ch' R ∧ Frs (cl.set k ([], 0)) ∧ Uok (un ++ [k]) (cl.set k ([], 0))) := by
    refine ⟨hrg, hfr.set (by omega), ?_, fun x hx => ?_⟩
    · refine List.nodup_append.2 ⟨hu.1, by simp, fun a ha c hc e => ?_⟩
      have ec : c = k := by simpa using hc
      have := (hu.2 a ha).2.2
      rw [e, ec] at this
      rw [this] at hc2; simp at hc2
    · rcases List.mem_append.1 hx with a | a
      · have h3 := hu.2 x a
        refine ⟨h3.1, by rw [List.length_set]; exact h3.2.1, ?_⟩
        by_cases e : x = k
        · rw [e]; exact lts_set_self hkl
        · rw [lts_set_ne e]; exact h3.2.2
      · have ec : x = k := by simpa using a
        rw [ec]
        exact ⟨hk0, by rw [List.length_set]; exact hkl, lts_set_self hkl⟩
  obtain ⟨gC, cC, eC, p1, p2, p3⟩ := row_some hz.c (by omega)
  have HC : Hid (s.C = .slice (some ⟨gC, 0, none⟩) cl.length cC) := eC
  obtain ⟨N, hN⟩ : ∃ N, cl.length = N := ⟨_, rfl⟩
  have HN : Hid (cl.length = N ∧ B ≤ w.heap.size ∧ un.length ≤ 1073741824) := ⟨hN, hB, hul⟩
  rw [hN] at hcl hkl p1
  have hw2k : IntKind.i32.wrap (2 * (k : Int)) = 2 * (k : Int) := by rw [wrap_i32']; omega
  have hw2k1 : IntKind.i32.wrap (2 * (k : Int) + 1) = 2 * (k : Int) + 1 := by rw [wrap_i32']; omega
  have hwk : IntKind.i64.wrap (k : Int) = (k : Int) := by rw [IntKind.wrap_i64]; omega
  clear hz hrs hfr hu hc2 hnd hrg hwg hi0 hi1 hq0 hq01 hq02 hq1 hq11 hq12 hn0 hn1 hfl htw hn2 eC hB hN hul
  go_enter Tryz.func52, Tryz.ntmps52
  go_upto_region 1 with (go_at_call 70; refine HS0.out.mono ?_; rintro e w1 ⟨rfl, hh⟩; have H1 : Hid (LkS B b s V cl un (skL lk (2 * k)) (skF lk fs (2 * k) i0) (inLs n R) R R.length w w1) := hh; clear hh)
  have HS1b := HS1.out w1 H1.out
  have HS1c : Hid (Calls Tryz.prog 70 #[.pointer (some ⟨b, 1, none⟩), .int .i32 (2 * (k : Int) + 1)] w1 fun e w' => e = .returned (.tuple #[]) ∧ LkS B b s V cl un (skL (skL lk (2 * k)) (2 * k + 1)) (skF (skL lk (2 * k)) (skF lk fs (2 * k) i0) (2 * k + 1) i1) (inLs n R) R R.length w w') := HS1b
  clear HS1b
  go_upto_region 2 with (go_at_call 70; refine HS1c.out.mono ?_; rintro e w2 ⟨rfl, hh⟩; have H2 : Hid (LkS B b s V cl un (skL (skL lk (2 * k)) (2 * k + 1)) (skF (skL lk (2 * k)) (skF lk fs (2 * k) i0) (2 * k + 1) i1) (inLs n R) R R.length w w2) := hh; clear hh)
  have hz := H2.out.1
  have hkl2 : k < cl.length := by rw [HN.out.1]; exact hkl
  have e2 := hz.c2
  have rC := hz.c
  rw [HC.out] at e2 rC
  have k0 := row_cell rC (clz_at hz.vl hkl2).1
  have k1 := row_cell rC (clz_at hz.vl hkl2).2
  have z0 := row_fz rC (k * 2)
  have z1 := row_fz rC (k * 2 + 1)
  have hzap := hz.zap HC.out hkl2
  rw [HN.out.1] at e2
  have HX : Hid (Fwz B ((w2.setCell ⟨gC, k * 2, none⟩ (.slice none 0 0)).setCell ⟨gC, k * 2 + 1, none⟩ (.int .i64 0)) b s (V.set k nilS) (cl.set k ([], 0)) un (skL (skL lk (2 * k)) (2 * k + 1)) (skF (skL lk (2 * k)) (skF lk fs (2 * k) i0) (2 * k + 1) i1) (inLs n R) R R.length ∧ Mo w2 (s.own V b) ((w2.setCell ⟨gC, k * 2, none⟩ (.slice none 0 0)).setCell ⟨gC, k * 2 + 1, none⟩ (.int .i64 0)) (s.own (V.set k nilS) b)) := hzap
  clear hz hkl2 rC hzap
  go_upto_region 3 with fail
  generalize ((w2.setCell ⟨gC, k * 2, none⟩ (.slice none 0 0)).setCell ⟨gC, k * 2 + 1, none⟩ (.int .i64 0)) = w3 at *
  obtain ⟨iI, hiI, hzI0, hzI1, hzI2⟩ := info_parts infoI6
  obtain ⟨aU, cU, eU⟩ := row_form' HX.out.1.u
  have e3 := HX.out.1.c3
  obtain ⟨M, hM⟩ : ∃ M, un.length = M := ⟨_, rfl⟩
  rw [eU, hM] at e3
  have hz0 := HX.out.1.below (below_box w3 (.cells #[.int .i32 (k : Int)] 21))
  have rU : (w3.alloc (.cells #[.int .i32 (k : Int)] 21)).ownsRow B 21 1 s.U un.length (i32s (nats un)) := hz0.u
  rw [eU] at rU
  have hBs : B ≤ (w3.alloc (.cells #[.int .i32 (k : Int)] 21)).heap.size := Nat.le_trans HN.out.2.1 (Nat.le_trans (H2.out.2.trans HX.out.2).size (below_box w3 _).size)
  obtain ⟨v5, w5, run5, own5, ap5⟩ := run_append_apk (P := Tryz.prog) (w3.alloc (.cells #[.int .i32 (k : Int)] 21)) B 58 58 21 iI (.int .i32 0) 1 4 Tryz.underlying58 hiI hzI0 hzI1 hzI2 rfl (by decide) _ _ _ rU ⟨w3.heap.size, 0, none⟩ 1 1 [.int .i32 (k : Int)] rfl (cells_new2 w3 _ _) (by simp [Value.oneCell']) (by unfold maxLen; have := HN.out.2.2; omega) (by have := HN.out.2.2; omega) hBs
  have e5 : i32s (nats un) ++ [.int .i32 (k : Int)] = i32s (nats (un ++ [k])) := by unfold i32s nats; simp
  rw [e5] at own5
  have hput := hz0.putU (un' := un ++ [k]) (u := v5) (W1 := w5) (by rw [eU]; exact ap5.grown) (by rw [eU]; exact ap5.new) (by rw [List.length_append]; exact own5)
  have hb5 := box_other hz0.box (W' := w5) (row := s.U.ownBlock) (by rw [eU]; exact ap5.grown) (fun x e => row_ty hz0.u e.symm) (by decide)
  have p2 : w5.cell? ⟨b, 3, none⟩ = some s.U := box_cell hb5 rfl
  have p2f : w5.frozen? ⟨b, 3, none⟩ = false := by simp [World.frozen?, hb5]
  rw [eU, hM] at p2
  obtain ⟨a5, c5, ev5⟩ := row_form' own5
  subst ev5
  rw [hM] at run5 hput
  have HF : Hid (LvS B b s V un cl n R k w (w5.setCell ⟨b, 3, none⟩ (.slice a5 (M + 1) c5))) := ⟨_, _, ⟨_, _, ch', hput.1, HR.out.1, HR.out.2.1⟩, HR.out.2.2, rfl, rfl, ((H2.out.2.trans HX.out.2).trans (Mo.below (below_box w3 _))).trans hput.2⟩
  have HRun5 : Hid ((Builtin.append_ #[58, 58] 58 #[.slice aU M cU, .slice (some ⟨w3.heap.size, 0, none⟩) 1 1]).run Tryz.prog (w3.alloc (.cells #[.int .i32 (k : Int)] 21)) = .ok (.slice a5 (M + 1) c5) w5) := run5
  clear run5 own5 ap5 hput hb5 rU hz0 eU e5 hM
  go_wp2_with (at_builtin; refine Lib.wpList_append_run _ rfl _ _ _ _ rfl _ _ rfl rfl _ _ HRun5.out ?_)
  go_end0
  exact ⟨rfl, HF.out⟩
end
end Go.Proofs.YtjajafeaengnjaaGreatDoor
set_option linter.unusedSimpArgs false
set_option linter.unusedVariables false
namespace Go.Proofs.YtjajafeaengnjaaGreatDoor
open Go Go.RowKit
section
variable {B b : Nat} {W : World} {M : Value} {D : Bool}
theorem Fcz.c1 (h : Fcz B W b M D) : W.cell? ⟨b, 1, none⟩ = some (.bool true) := box_cell h.1 rfl
theorem Fcz.lt (h : Fcz B W b M D) : b < W.heap.size := (Array.getElem?_eq_some_iff.1 h.1).1
theorem Fcz.below {W' : World} (h : Fcz B W b M D) (hb : Below W.heap.size W W') : Fcz B W' b M D := ⟨by rw [hb.block b h.lt]; exact h.1, h.2⟩
theorem fEnter_clash (w : World) (vc : Value) (h : Fcz B w b M D) :
    Calls Tryz.prog 49 #[.pointer (some ⟨b, 1, none⟩), vc] w fun e w' => e = .returned (.int .i32 0) ∧ Below w.heap.size w w' := by
  have c1 := h.c1
  clear h
  go_enter Tryz.func49, Tryz.ntmps49
  go_wp2
  go_ret
  exact ⟨rfl, Below.refl _ _⟩
theorem fNeeds_clash (w : World) (vc : Value) (h : Fcz B w b M D) :
    Calls Tryz.prog 51 #[.pointer (some ⟨b, 1, none⟩), vc] w fun e w' => e = .returned (.bool true) ∧ Below w.heap.size w w' := by
  have c1 := h.c1
  clear h
  go_enter Tryz.func51, Tryz.ntmps51
  go_wp2
  go_ret
  exact ⟨rfl, Below.refl _ _⟩
theorem fFollows_clash (w : World) (vc : Value) (h : Fcz B w b M D) :
    Calls Tryz.prog 71 #[.pointer (some ⟨b, 1, none⟩), vc] w fun e w' => e = .returned (.bool true) ∧ Below w.heap.size w w' := by
  have c1 := h.c1
  clear h
  go_enter Tryz.func71, Tryz.ntmps71
  go_wp2
  go_ret
  exact ⟨rfl, Below.refl _ _⟩
end
end Go.Proofs.YtjajafeaengnjaaGreatDoor
set_option linter.unusedSimpArgs false
set_option linter.unusedVariables false
namespace Go.Proofs.YtjajafeaengnjaaGreatDoor
open Go Go.RowKit
/-- the values of the clauses that are there, ahead of a place -/
def fvs (V : List Value) (cl : Fcl) : Nat → List Value
  | 0 => []
  | j + 1 => fvs V cl j ++ (if lts cl j = [] then [] else [V.getD j nilS])
def fcs (cl : Fcl) : Nat → List (List Int)
  | 0 => []
  | j + 1 => fcs cl j ++ (if lts cl j = [] then [] else [lts cl j])
theorem fcs_take (cl : Fcl) : ∀ j, j ≤ cl.length → fcs cl j = cssOf (cl.take j)
  | 0, _ => by simp [fcs, cssOf]
  | j + 1, h => by
    have hj : j < cl.length := h
    have el : lts cl j = (cl[j]).1 := by unfold lts; rw [List.getD_eq_getElem?_getD, List.getElem?_eq_getElem hj]; rfl
    rw [fcs, fcs_take cl j (by omega), List.take_succ_eq_append_getElem hj]
    unfold cssOf
    rw [List.map_append, List.filter_append, el]
    congr 1
    by_cases e : (cl[j]).1 = [] <;> simp [List.filter_cons, e]
theorem fcs_all (cl : Fcl) : fcs cl cl.length = cssOf cl := by rw [fcs_take cl _ (Nat.le_refl _), List.take_length]
theorem fvs_len (V : List Value) (cl : Fcl) : ∀ j, (fvs V cl j).length = (fcs cl j).length ∧ (fvs V cl j).length ≤ j
  | 0 => by simp [fvs, fcs]
  | j + 1 => by
    have := fvs_len V cl j
    rw [fvs, fcs]
    by_cases e : lts cl j = [] <;> simp [e] <;> omega
theorem fvs_at (V : List Value) (cl : Fcl) : ∀ j i, i < (fcs cl j).length → ∃ k, (fvs V cl j)[i]? = some (V.getD k nilS) ∧ (fcs cl j).getD i [] = lts cl k
  | 0, i, h => by simp [fcs] at h
  | j + 1, i, h => by
    have hl := (fvs_len V cl j).1
    by_cases e : lts cl j = []
    · rw [fcs, if_pos e, List.append_nil] at h ⊢
      rw [fvs, if_pos e, List.append_nil]
      exact fvs_at V cl j i h
    · rw [fcs, if_neg e] at h ⊢
      rw [fvs, if_neg e]
      by_cases hi : i < (fcs cl j).length
      · obtain ⟨k, h1, h2⟩ := fvs_at V cl j i hi
        refine ⟨k, by rw [List.getElem?_append_left (by omega)]; exact h1, ?_⟩
        rw [List.getD_eq_getElem?_getD] at h2 ⊢
        rw [List.getElem?_append_left hi]; exact h2
      · have ei : i = (fcs cl j).length := by simp at h; omega
        subst ei
        refine ⟨j, by rw [← hl, List.getElem?_append_right (Nat.le_refl _)]; simp, ?_⟩
        rw [List.getD_eq_getElem?_getD, List.getElem?_append_right (Nat.le_refl _)]; simp
/-- while the formula is made -/
structure Fmz (w wx : World) (u : Value) (vs : List Value) : Prop where
  bl : Below w.heap.size w wx
  e : wx.heap[w.heap.size]? = some (.cells #[.int .i64 0, .slice none 0 0] 24 (0, 0))
  d : wx.heap[w.heap.size + 1]? = some (.cells #[.int .i64 1048576, u] 24 (0, 0))
  row : wx.ownsRow w.heap.size 25 1 u vs.length vs
section
variable {w wx wy : World} {u : Value} {vs : List Value}
theorem Fmz.lt (h : Fmz w wx u vs) : w.heap.size + 1 < wx.heap.size := (Array.getElem?_eq_some_iff.1 h.d).1
theorem Fmz.step (h : Fmz w wx u vs) (hb : Below wx.heap.size wx wy) : Fmz w wy u vs :=
  ⟨Below.step h.bl hb, by rw [hb.block _ (by have := h.lt; omega)]; exact h.e, by rw [hb.block _ h.lt]; exact h.d, row_kept h.row fun q hq => hb.block q (h.row.lt q hq.symm).2⟩
theorem Fmz.push {v u' : Value} (h : Fmz w wx u vs) (hg : wx.grownBy wy u.ownBlock) (ho : wy.ownsRow w.heap.size 25 1 u' (vs.length + 1) (vs ++ [v])) : Fmz w (wy.setCell ⟨w.heap.size + 1, 1, none⟩ u') u' (vs ++ [v]) ∧ wy.cell? ⟨w.heap.size + 1, 1, none⟩ = some u ∧ wy.frozen? ⟨w.heap.size + 1, 1, none⟩ = false := by
  have ht : ∀ x, u.ownBlock = some x → Ty wx x 25 := fun x e => row_ty h.row e.symm
  have he := box_other h.e hg ht (by decide)
  have hd := box_other h.d hg ht (by decide)
  have hs := hg.size
  have hb : Below w.heap.size w wy := h.bl.grown hg (by have := h.lt; omega) (fun q e => (h.row.lt q e).1)
  have hg2 := grown_set wy ⟨w.heap.size + 1, 1, none⟩ u'
  refine ⟨⟨below_set hb (by omega) _ _, ?_, set_heap hd 1 _, ?_⟩, box_cell hd rfl, by simp [World.frozen?, hd]⟩
  · exact (hg2.block _ (by have := h.lt; omega) (by simp)).trans he
  · rw [List.length_append]
    exact row_other ho hg2 (fun x e => by
      have : x = w.heap.size + 1 := by injection e with e; exact e.symm
      subst this
      exact ⟨_, _, hd⟩) (by decide)
end
section
variable {B b : Nat} {s : Sf} {V : List Value} {cl : Fcl} {un : List Nat} {lk : List (Nat × Nat)} {fs : List Nat} {hs : List Bool} {R : List Int} {td : Nat}
theorem rds_fin {w wx : World} {u : Value} (hbl : Below w.heap.size w wx) (hr : wx.ownsRow w.heap.size 25 1 u (fvs V cl cl.length).length (fvs V cl cl.length)) (hz : Fwz B w b s V cl un lk fs hs R td) (hcl : cl.length ≤ 1073741824) (hlt : ∀ k, (lts cl k).length ≤ 2097152) : Rds wx u (cssOf cl) := by
  have hl := fvs_len V cl cl.length
  have hat := fvs_at V cl cl.length
  rw [fcs_all] at hl hat
  refine ⟨by omega, ?_⟩
  rcases Nat.eq_zero_or_pos (cssOf cl).length with e0 | e0
  · have e : cssOf cl = [] := List.eq_nil_of_length_eq_zero e0
    rw [e] at hl ⊢
    rw [hl.1] at hr
    rcases hr.2 with ⟨e1, e2⟩ | ⟨g', cap', cur, e1, hb', hg', h1, h2, h3, h4⟩
    · exact ⟨none, 0, e1, by simp, by unfold maxLen; omega, fun _ => rfl, fun h => absurd rfl h⟩
    · exact ⟨_, _, e1, by simp, h2, by simp, fun h => absurd rfl h⟩
  · obtain ⟨g, cap, ev, h1, h2, h3⟩ := row_some hr (by omega)
    rw [ev] at hr ⊢
    rw [hl.1] at h1 ⊢
    refine ⟨_, _, rfl, h1, h2, by simp, fun _ => ⟨g, 0, rfl, h3, fun j hj => ?_⟩⟩
    obtain ⟨k, p1, p2⟩ := hat j hj
    rw [p2, Nat.zero_add]
    exact ⟨_, row_cell hr p1, Rd.below (Own.rd (base := B) (hz.v k) (by have := hlt k; omega)) hbl⟩
theorem Fmz.ret {w wx : World} {u x y : Value} {vs : List Value} (h : Fmz w wx u vs) : Below w.heap.size w ((wx.setCell ⟨w.heap.size, 0, none⟩ x).setCell ⟨w.heap.size, 1, none⟩ y) ∧ ((wx.setCell ⟨w.heap.size, 0, none⟩ x).setCell ⟨w.heap.size, 1, none⟩ y).ownsRow w.heap.size 25 1 u vs.length vs := by
  have g1 := grown_set wx ⟨w.heap.size, 0, none⟩ x
  have h1 := set_heap h.e 0 x
  have r1 := row_other h.row g1 (fun q e => by
    have : q = w.heap.size := by injection e with e; exact e.symm
    subst this
    exact ⟨_, _, h.e⟩) (by decide)
  have g2 := grown_set (wx.setCell ⟨w.heap.size, 0, none⟩ x) ⟨w.heap.size, 1, none⟩ y
  exact ⟨below_set (below_set h.bl (Nat.le_refl _) _ _) (Nat.le_refl _) _ _, row_other r1 g2 (fun q e => by
    have : q = w.heap.size := by injection e with e; exact e.symm
    subst this
    exact ⟨_, _, h1⟩) (by decide)⟩
theorem Fmz.new (w : World) : Fmz w ((w.alloc (.cells #[.int .i64 0, .slice none 0 0] 24)).alloc (.cells #[.int .i64 1048576, .slice none 0 0] 24)) (.slice none 0 0) [] := by
  refine ⟨Below.step (below_box w _) (below_box _ _), ?_, ?_, World.ownsRow_nil _ _ _ _⟩
  · rw [(below_box (w.alloc (.cells #[.int .i64 0, .slice none 0 0] 24)) _).block _ (by rw [World.size_alloc]; omega)]
    exact World.alloc_heap_new w _
  · have := World.alloc_heap_new (w.alloc (.cells #[.int .i64 0, .slice none 0 0] 24)) (.cells #[.int .i64 1048576, .slice none 0 0] 24)
    rw [World.size_alloc] at this; exact this
theorem ret_fm1 {fn : Func} {p : Tmp} {tmps : Array Value} {W : World} {D : Nat} {x y : Value} (h : fn.results = #[.cell p 24]) (hp : tmps.getD p undef = .pointer (some ⟨D, 0, none⟩)) (hb : Bx2 W D 24 x y) :
    (results fn tmps).run Tryz.prog W = .ok (.agg #[x, y]) W := by
  have c0 := hb.c0
  have c1 := hb.c1
  have hp' : tmps[p]?.getD undef = .pointer (some ⟨D, 0, none⟩) := by rw [← hp]; simp
  unfold results
  rw [h]
  simp [go_sem, hp', c0, c1]
set_option maxRecDepth 100000 in
set_option maxHeartbeats 1600000 in
theorem fFormula_any (w : World) (hz : Fwz B w b s V cl un lk fs hs R td) (hcl : cl.length ≤ 1073741824) (hlt : ∀ k, (lts cl k).length ≤ 2097152) :
    Calls Tryz.prog 73 #[.pointer (some ⟨b, 1, none⟩)] w fun e w' => ∃ u, e = .returned (.agg #[.int .i64 1048576, u]) ∧ Rds w' u (cssOf cl) ∧ Below w.heap.size w w' := by
  have HZ : Hid (Fwz B w b s V cl un lk fs hs R td ∧ ∀ k, (lts cl k).length ≤ 2097152) := ⟨hz, hlt⟩
  obtain ⟨aC, cC, eC⟩ := row_form' hz.c
  have HC : Hid (s.C = .slice aC cl.length cC) := eC
  have c2 := hz.c2
  rw [eC] at c2
  have hbl := hz.blt
  have HN : Hid (Fmz w ((w.alloc (.cells #[.int .i64 0, .slice none 0 0] 24)).alloc (.cells #[.int .i64 1048576, .slice none 0 0] 24)) (.slice none 0 0) []) := Fmz.new w
  clear hz hlt eC
  go_enter Tryz.func73, Tryz.ntmps73
  go_upto_region 2 with fail
  generalize ((w.alloc (.cells #[.int .i64 0, .slice none 0 0] 24)).alloc (.cells #[.int .i64 1048576, .slice none 0 0] 24)) = w1 at *
  have d2 : w1.cell? ⟨b, 2, none⟩ = some (.slice aC cl.length cC) := (HN.out.bl.cell (p := ⟨b, 2, none⟩) hbl).trans c2
  clear c2
  go_wp2_with fail
  go_loopg [12] cl.length (fun g iv wx => ∃ (j : Nat) (u : Value), j + g = cl.length ∧ iv = .int .i64 (j : Int) ∧ Fmz w wx u (fvs V cl j))
  case atStart => exact ⟨0, _, by omega, rfl, HN.out⟩
  case round =>
    obtain ⟨j, u, hj, rfl, hm⟩ := hrel
    have HJ : Hid (j + gk = cl.length) := hj
    have HM : Hid (Fmz w wr u (fvs V cl j)) := hm
    clear d2
    by_cases hlt : j < cl.length
    · have rC := HZ.out.1.c
      rw [HC.out] at rC
      obtain ⟨gC, cap, eS, p1, p2, p3⟩ := row_some rC (by omega)
      injection eS with q1 q2 q3
      subst q1 q3
      have k0 := row_cell rC (clz_at HZ.out.1.vl hlt).1
      have k1 := row_cell rC (clz_at HZ.out.1.vl hlt).2
      have y0 := (hm.bl.cell (p := ⟨gC, j * 2, none⟩) p3).trans k0
      have y1 := (hm.bl.cell (p := ⟨gC, j * 2 + 1, none⟩) p3).trans k1
      obtain ⟨aV, cV, eV⟩ := row_form' (HZ.out.1.v j)
      have HV : Hid (V.getD j nilS = .slice aV (lts cl j).length cV) := eV
      rw [eV] at y0
      obtain ⟨nV, hnV⟩ : ∃ nV, (lts cl j).length = nV := ⟨_, rfl⟩
      have HnV : Hid ((lts cl j).length = nV) := hnV
      rw [hnV] at y0
      generalize ((cl.getD j ([], 0)).2) = fr at *
      have hfl := fvs_len V cl j
      by_cases hn0 : nV = 0
      · subst hn0
        have e0 : lts cl j = [] := List.eq_nil_of_length_eq_zero hnV
        have HF : Hid (∀ W, Below wr.heap.size wr W → Fmz w W u (fvs V cl (j + 1))) := fun W hW => by rw [fvs, if_pos e0, List.append_nil]; exact hm.step hW
        clear hm rC k0 k1 eV hnV e0 hj hfl
        go_wp2_with fail
        go_roundg (gk - 1)
        case measure => have := HJ.out; omega
        case rel => exact ⟨j + 1, u, by have := HJ.out; omega, by go_num, HF.out _ (below_box _ _)⟩
      · have ne0 : ¬ lts cl j = [] := fun e => hn0 (by rw [← hnV, e]; rfl)
        have hn1 : 0 < nV := by omega
        have HE : Hid (fvs V cl (j + 1) = fvs V cl j ++ [.slice aV nV cV]) := by
          have h := HV.out
          rw [HnV.out] at h
          show _ = _
          rw [fvs, if_neg ne0, h]
        clear hm rC k0 k1 eV hnV ne0 hj
        go_upto_region 6 with fail
        have H4 : Hid (Fmz w (wr.alloc (.cells #[.slice aV nV cV, .int .i64 (fr : Int)] 90)) u (fvs V cl j)) := HM.out.step (below_box _ _)
        have z1 : (wr.alloc (.cells #[.slice aV nV cV, .int .i64 (fr : Int)] 90)).cell? ⟨wr.heap.size, 0, none⟩ = some (.slice aV nV cV) := box_cell (World.alloc_heap_new wr _) rfl
        have hX : wr.heap.size < (wr.alloc (.cells #[.slice aV nV cV, .int .i64 (fr : Int)] 90)).heap.size := by rw [World.size_alloc]; omega
        clear y0 y1
        generalize wr.alloc (.cells #[.slice aV nV cV, .int .i64 (fr : Int)] 90) = w4 at *
        obtain ⟨aU, cU, eU⟩ := row_form' H4.out.row
        obtain ⟨L, hL⟩ : ∃ L, (fvs V cl j).length = L := ⟨_, rfl⟩
        rw [hL] at eU hfl
        subst eU
        have d1 : w4.cell? ⟨w.heap.size + 1, 1, none⟩ = some (.slice aU L cU) := box_cell H4.out.d rfl
        have hD := H4.out.lt
        obtain ⟨iL, hiL, hzL0, hzL1, hzL2⟩ := info_parts infoR
        have H5 : Hid (Fmz w (w4.alloc (.cells #[.slice aV nV cV] 25)) (.slice aU L cU) (fvs V cl j)) := H4.out.step (below_box _ _)
        have HOa : Hid ((w4.alloc (.cells #[.slice aV nV cV] 25)).ownsRow w.heap.size 25 1 (.slice aU L cU) L (fvs V cl j)) := by
          have h := H5.out.row
          rw [hL] at h; exact h
        have HNa : Hid (∀ q y, [Value.slice aV nV cV][q]? = some y → (w4.alloc (.cells #[.slice aV nV cV] 25)).cell? ((⟨w4.heap.size, 0, none⟩ : Addr).add q) = some y) := cells_new2 w4 _ _
        have HSa : Hid (w.heap.size ≤ (w4.alloc (.cells #[.slice aV nV cV] 25)).heap.size) := H5.out.bl.size
        have hl63 : L + 1 ≤ maxLen := by unfold maxLen; omega
        have hl48 : (L + 1) * 24 ≤ 140737488355328 := by omega
        have HPu : Hid (∀ w5 u5, Ap (w4.alloc (.cells #[.slice aV nV cV] 25)) (.slice aU L cU) w5 u5 → w5.ownsRow w.heap.size 25 1 u5 (L + 1) (fvs V cl j ++ [.slice aV nV cV]) → Fmz w (w5.setCell ⟨w.heap.size + 1, 1, none⟩ u5) u5 (fvs V cl (j + 1)) ∧ w5.cell? ⟨w.heap.size + 1, 1, none⟩ = some (.slice aU L cU) ∧ w5.frozen? ⟨w.heap.size + 1, 1, none⟩ = false) := fun w5 u5 ha ho => by
          rw [HE.out]
          exact H5.out.push ha.grown (by rw [hL]; exact ho)
        have HI : Hid (Tryz.prog.info? 25 = some iL ∧ iL.zero = some (.slice none 0 0) ∧ iL.size = 1 ∧ iL.bytes = 24) := ⟨hiL, hzL0, hzL1, hzL2⟩
        clear hL hiL hzL0 hzL1 hzL2 hfl
        go_wp2_with (at_builtin; refine wpList_append_apk rfl _ _ 22 rfl w.heap.size 25 iL (.slice none 0 0) 1 24 Tryz.underlying22 HI.out.1 HI.out.2.1 HI.out.2.2.1 HI.out.2.2.2 rfl (by decide) (.slice aU L cU) L (fvs V cl j) rfl HOa.out ⟨w4.heap.size, 0, none⟩ 1 1 [.slice aV nV cV] rfl rfl HNa.out (by simp [Value.oneCell']) hl63 hl48 HSa.out ?_; intro v5 w5 own5 ap5; obtain ⟨a5, c5, hv5⟩ := row_form' own5; subst hv5; have f5 := HPu.out w5 _ ap5 own5; have p5 := f5.2.1; have p6 := f5.2.2; have F5 : Hid (Fmz w (w5.setCell ⟨w.heap.size + 1, 1, none⟩ (.slice a5 (L + 1) c5)) (.slice a5 (L + 1) c5) (fvs V cl (j + 1))) := f5.1; clear own5 ap5 f5)
        go_roundg (gk - 1)
        case measure => have := HJ.out; omega
        case rel => exact ⟨j + 1, _, by have := HJ.out; omega, by go_num, F5.out⟩
    · have ej : j = cl.length := by omega
      subst ej
      obtain ⟨aU, cU, eU⟩ := row_form' hm.row
      generalize (fvs V cl cl.length).length = L at eU
      subst eU
      have HR : Hid (Rds ((wr.setCell ⟨w.heap.size, 0, none⟩ (.int .i64 1048576)).setCell ⟨w.heap.size, 1, none⟩ (.slice aU L cU)) (.slice aU L cU) (cssOf cl) ∧ Below w.heap.size w ((wr.setCell ⟨w.heap.size, 0, none⟩ (.int .i64 1048576)).setCell ⟨w.heap.size, 1, none⟩ (.slice aU L cU))) := ⟨rds_fin hm.ret.1 hm.ret.2 HZ.out.1 hcl HZ.out.2, hm.ret.1⟩
      have x0 : wr.cell? ⟨w.heap.size + 1, 0, none⟩ = some (.int .i64 1048576) := box_cell hm.d rfl
      have x1 : wr.cell? ⟨w.heap.size + 1, 1, none⟩ = some (.slice aU L cU) := box_cell hm.d rfl
      have x2 : wr.cell? ⟨w.heap.size, 0, none⟩ = some (.int .i64 0) := box_cell hm.e rfl
      have x3 : wr.cell? ⟨w.heap.size, 1, none⟩ = some (.slice none 0 0) := box_cell hm.e rfl
      have x4 : wr.frozen? ⟨w.heap.size, 0, none⟩ = false := by simp [World.frozen?, hm.e]
      have x5 : wr.frozen? ⟨w.heap.size, 1, none⟩ = false := by simp [World.frozen?, hm.e]
      have hE2 := set_heap (set_heap hm.e 0 (.int .i64 1048576)) 1 (.slice aU L cU)
      have HY : Hid (((wr.setCell ⟨w.heap.size, 0, none⟩ (.int .i64 1048576)).setCell ⟨w.heap.size, 1, none⟩ (.slice aU L cU)).cell? ⟨w.heap.size, 0, none⟩ = some (.int .i64 1048576) ∧ ((wr.setCell ⟨w.heap.size, 0, none⟩ (.int .i64 1048576)).setCell ⟨w.heap.size, 1, none⟩ (.slice aU L cU)).cell? ⟨w.heap.size, 1, none⟩ = some (.slice aU L cU)) := ⟨box_cell hE2 rfl, box_cell hE2 rfl⟩
      have HB2 : Hid (Bx2 ((wr.setCell ⟨w.heap.size, 0, none⟩ (.int .i64 1048576)).setCell ⟨w.heap.size, 1, none⟩ (.slice aU L cU)) w.heap.size 24 (.int .i64 1048576) (.slice aU L cU)) := hE2
      clear hj hm hE2
      go_wp2
      have y0 : ((wr.setCell ⟨w.heap.size, 0, none⟩ (.int .i64 1048576)).setCell ⟨w.heap.size, 1, none⟩ (.slice aU L cU)).cell? ⟨w.heap.size, 0, none⟩ = some (.int .i64 1048576) := HY.out.1
      have y1 : ((wr.setCell ⟨w.heap.size, 0, none⟩ (.int .i64 1048576)).setCell ⟨w.heap.size, 1, none⟩ (.slice aU L cU)).cell? ⟨w.heap.size, 1, none⟩ = some (.slice aU L cU) := HY.out.2
      generalize ((wr.setCell ⟨w.heap.size, 0, none⟩ (.int .i64 1048576)).setCell ⟨w.heap.size, 1, none⟩ (.slice aU L cU)) = w9 at *
      refine bodyPost_ret (ret_fm1 rfl rfl HB2.out) rfl ?_
      exact ⟨_, rfl, HR.out⟩
end
end Go.Proofs.YtjajafeaengnjaaGreatDoor
