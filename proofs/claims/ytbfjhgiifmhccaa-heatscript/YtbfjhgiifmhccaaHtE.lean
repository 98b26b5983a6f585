/-
  heat: change.
  KEEP: set on app at below new trans refl start kept mono lt add none own nil put len pos other cell ty blt fz box k p r pr a0 a1 a2 c0 c1 c2 hb setK setP setR unique grown step fin bij up q1 q2 pl held mk v1 v2 t1 t2 hs few cut root z kl nl sl d1 d2 row down
-/
import Derived.Test.YtbfjhgiifmhccaaHtD
set_option linter.unusedSimpArgs false
set_option linter.unusedVariables false
namespace Go.Proofs.Ytbfjhgiifmhccaa
open Go Go.RowKit
attribute [local go_sem] run_store_float

/-- scaled -/
def scl (x : Nat) : Nat := fmul x tny
theorem scl_le {x : Nat} (h : x ≤ infR) : scl x ≤ infR := (mul_ok h tny_lt tny_ne).2
theorem scl_run {x : Nat} (h : x ≤ infR) (t : TypeId) (w : World) : (binOp .mul t (.float .f64 x) (.float .f64 3110860544497550640)).run Try.prog w = .ok (.float .f64 (scl x)) w :=
  run_float_arith w .mul t .f64 x 3110860544497550640 (scl x) (mul_ok h tny_lt tny_ne).1
theorem smaller_any (x : Nat) (w : World) (h : x ≤ infR) :
    Calls Try.prog 52 #[.float .f64 x] w fun e w' => e = .returned (.float .f64 (scl x)) ∧ w' = w := by
  have hr := scl_run h 23 w
  generalize scl x = y at *
  clear h
  go_enter Try.func52, Try.ntmps52
  go_wp2
  go_ret
  exact ⟨rfl, rfl⟩

/-- the first so many scaled -/
def mks (K : List Nat) (k : Nat) : List Nat := (K.take k).map scl ++ K.drop k
theorem mks_len (K : List Nat) (k : Nat) : (mks K k).length = K.length := by simp [mks]; omega
theorem mks_zero (K : List Nat) : mks K 0 = K := by simp [mks]
theorem mks_all (K : List Nat) : mks K K.length = K.map scl := by simp [mks]
theorem mks_at {K : List Nat} {k : Nat} (h : k < K.length) : gt (mks K k) k = gt K k := by
  unfold gt mks
  rw [List.getD_eq_getElem?_getD, List.getD_eq_getElem?_getD, List.getElem?_append_right (by simp; omega)]
  simp
  congr 2; omega
theorem mks_set {K : List Nat} {k : Nat} (h : k < K.length) : (mks K k).set k (scl (gt K k)) = mks K (k + 1) := by
  have hd : K.drop k = gt K k :: K.drop (k + 1) := by
    rw [List.drop_eq_getElem_cons h]; unfold gt; rw [List.getD_eq_getElem?_getD, List.getElem?_eq_getElem h]; rfl
  have ht : K.take (k + 1) = K.take k ++ [gt K k] := by
    rw [List.take_add_one]; unfold gt; rw [List.getD_eq_getElem?_getD, List.getElem?_eq_getElem h]; rfl
  unfold mks
  rw [hd, ht, List.set_append_right (h := by simp; omega), List.map_append]
  have : k - ((K.take k).map scl).length = 0 := by simp; omega
  rw [this]
  simp
theorem fin_mks {K : List Nat} (h : Fin K) (k : Nat) : Fin (mks K k) := fun j => by
  unfold gt mks
  rw [List.getD_eq_getElem?_getD]
  by_cases hj : j < ((K.take k).map scl).length
  · rw [List.getElem?_append_left hj, List.getElem?_map]
    cases e : (K.take k)[j]? with
    | none => simp [infR]
    | some y =>
      simp
      refine scl_le ?_
      have hm := List.mem_of_getElem? e
      obtain ⟨i, hi, rfl⟩ := List.getElem_of_mem (List.mem_of_mem_take hm)
      have := h i
      unfold gt at this
      rw [List.getD_eq_getElem?_getD, List.getElem?_eq_getElem hi] at this
      exact this
  · rw [List.getElem?_append_right (by omega), List.getElem?_drop]
    have := h (k + (j - ((K.take k).map scl).length))
    unfold gt at this
    rw [List.getD_eq_getElem?_getD] at this
    exact this
theorem fin_scl {K : List Nat} (h : Fin K) : Fin (K.map scl) := by rw [← mks_all]; exact fin_mks h _

section
variable {B b n : Nat} {s : Hs} {K P R : List Nat}
set_option maxHeartbeats 2000000 in
theorem change_any (w : World) (hz : Hz B w b s K P R) (hf : Fin K) (hb : Bij n R P) (hK : K.length = n + 1) (hn : n ≤ 1048576) :
    Calls Try.prog 53 #[.pointer (some ⟨b, s.o, none⟩), .func (.func 52) #[] #[]] w fun e w' => e = .returned (.tuple #[]) ∧ LedS B b n R.length s (K.map scl) (fun u => gt P u ≠ 0) 1 w w' := by
  obtain ⟨gK, cK, eK, k1, k2, k3⟩ := row_some hz.k (by omega)
  have hRl := hb.few
  have b0 := hz.c0
  rw [eK] at b0
  have HZ0 : Hid (HzS B b s (mks K 0) P R w w) := by rw [mks_zero]; exact ⟨hz, Mf.refl _ _⟩
  have HB : Hid (Bij n R P) := hb
  have HF : Hid (Fin K) := hf
  obtain ⟨NK, hNK⟩ : ∃ N : Nat, K.length = N := ⟨_, rfl⟩
  have HKL : Hid (K.length = NK) := hNK
  rw [hNK] at b0 k1 hK eK
  have HEK : Hid (s.K = .slice (some ⟨gK, 0, none⟩) NK cK) := eK
  obtain ⟨o, ho⟩ : ∃ o, s.o = o := ⟨_, rfl⟩
  have HO : Hid (s.o = o) := ho
  rw [ho] at b0 ⊢
  clear hz hf hb ho eK hNK
  have hNK2 : NK ≤ 1048577 := by omega
  have HNn : Hid (NK = n + 1) := hK
  clear hK
  go_enter Try.func53, Try.ntmps53
  go_wp2
  go_loopg [12] NK (fun g x wx => ∃ k : Nat, k + g = NK ∧ x = .int .i64 (k : Int) ∧ Hid (HzS B b s (mks K k) P R w wx))
  case atStart => exact ⟨0, by omega, rfl, HZ0⟩
  case round =>
    obtain ⟨k, hk, rfl, H1⟩ := hrel
    clear HZ0 b0
    by_cases hlt : k < NK
    · have hz := H1.out.1
      have rK := hz.k
      have c0 := hz.c0
      rw [HEK.out] at rK c0
      rw [mks_len, HKL.out] at rK
      rw [HO.out] at c0
      have hkl : k < (mks K k).length := by rw [mks_len, HKL.out]; exact hlt
      have xk := row_cell rK (f64s_at hkl)
      rw [mks_at (by rw [HKL.out]; exact hlt)] at xk
      have zk := row_fz rK k
      have hle := HF.out k
      have HS : Hid (∀ W, Below wr.heap.size wr W → HzS B b s (mks K (k + 1)) P R w (W.setCell ⟨gK, k, none⟩ (.float .f64 (scl (gt K k))))) := fun W hW => by
        have e2 : s.K = .slice (some ⟨gK, 0, none⟩) (mks K k).length cK := by rw [mks_len, HKL.out]; exact HEK.out
        obtain ⟨q, m⟩ := (hz.below hW).setK e2 hkl (scl (gt K k))
        rw [mks_set (by rw [HKL.out]; exact hlt)] at q
        exact ⟨q, (H1.out.2.trans (Mf.below hW)).trans m⟩
      have HM : Hid (∀ W, Calls Try.prog 52 #[.float .f64 (gt K k)] W fun e w' => e = .returned (.float .f64 (scl (gt K k))) ∧ w' = W) := fun W => smaller_any _ W hle
      clear hz rK hkl hle
      generalize hy : scl (gt K k) = y at *
      generalize hx : gt K k = x at *
      clear hx hy
      have hnk2 : NK - (k + 1) < gk := by omega
      have HKN : Hid (k + 1 + (NK - (k + 1)) = NK) := by show _ = _; omega
      have HS3 : Hid (HzS B b s (mks K (k + 1)) P R w (wr.setCell ⟨gK, k, none⟩ (.float .f64 y)).drew) := ⟨(HS.out wr (Below.refl _ _)).1.below (Below.refl _ _).drew, (HS.out wr (Below.refl _ _)).2.trans (Mf.below (Below.refl _ _).drew)⟩
      go_upto_region 3 with fail
      go_region_law (go_simp; go_at_call 52; refine (HM.out _).mono ?_; intro e w9 hh; rw [hh.1, hh.2]; clear hh e w9; dsimp only)
      all_goals
        go_wp2
        go_roundg (NK - (k + 1))
        case rel => exact ⟨k + 1, HKN.out, by simp, HS3⟩
        case measure => exact hnk2
    · have hke : k = NK := by omega
      have HZ1 : Hid (HzS B b s (K.map scl) P R w wr) := by have := H1.out; rw [hke, ← HKL.out, mks_all] at this; exact this
      have hNn := HNn.out
      clear H1
      subst hke
      obtain ⟨gR, cR, eR, j1, j2, j3⟩ := row_some HZ1.out.1.r (by have := HB.out.pos; omega)
      have c2 := HZ1.out.1.c2
      rw [eR] at c2
      rw [HO.out] at c2
      have HFK : Hid (Fin (K.map scl)) := fin_scl HF.out
      have HKL2 : Hid ((K.map scl).length = n + 1) := by show _ = _; rw [List.length_map, HKL.out, HNn.out]
      clear hNn HNn HKL HF HEK
      have HFin : Hid (∀ W, LedS B b n R.length s (K.map scl) (fun u => gt P u ≠ 0) 1 w W → LedS B b n R.length s (K.map scl) (fun u => gt P u ≠ 0) 1 w W) := fun _ h => h
      obtain ⟨K2, hK2⟩ : ∃ K2, K.map scl = K2 := ⟨_, rfl⟩
      obtain ⟨HD, hH⟩ : ∃ HD : Nat → Prop, (fun u => gt P u ≠ 0) = HD := ⟨_, rfl⟩
      obtain ⟨N, hN⟩ : ∃ N : Nat, R.length = N := ⟨_, rfl⟩
      have HFin2 : Hid (∀ W, LedS B b n N s K2 HD 1 w W → LedS B b n R.length s (K.map scl) (fun u => gt P u ≠ 0) 1 w W) := fun W h => by rw [hN, hK2, hH]; exact h
      clear HFin
      rw [hK2] at HZ1 HFK HKL2
      clear hK2
      have HRN : Hid (R.length = N) := hN
      have hpos := HB.out.pos
      have HERN : Hid (s.R = .slice (some ⟨gR, 0, none⟩) N cR) := by rw [← hN]; exact eR
      rw [hN] at c2 hRl j1 hpos
      have hdv : ((N : Int) - 1).tdiv 2 = (((N - 1) / 2 : Nat) : Int) := by rw [Int.tdiv_eq_ediv_of_nonneg (by omega)]; omega
      have HHP : Hid (HP (gt K2) R ((N - 1) / 2 + 1)) := HP.none (by rw [hN]; omega)
      have HQ : Hid (∀ u, 1 ≤ u → u ≤ n → (gt P u ≠ 0 ↔ gt P u ≠ 0)) := fun _ _ _ => Iff.rfl
      generalize hq0 : (N - 1) / 2 = q0 at *
      have hq0N : 2 * q0 < N := by omega
      have HHD : Hid (∀ u, 1 ≤ u → u ≤ n → (gt P u ≠ 0 ↔ HD u)) := fun u _ _ => by rw [← hH]
      clear hN hq0 eR hH
      go_wp2
      go_loopg [6] q0 (fun g x wx => ∃ (q : Nat) (P' R' : List Nat), g = q ∧ 2 * q < N ∧ x = .int .i64 (q : Int) ∧ Hid (HzS B b s K2 P' R' w wx) ∧ Hid (Bij n R' P') ∧ Hid (HP (gt K2) R' (q + 1)) ∧ Hid (R'.length = N) ∧ Hid (∀ u, 1 ≤ u → u ≤ n → (gt P' u ≠ 0 ↔ HD u)))
      case atStart => exact ⟨q0, P, R, rfl, hq0N, by simp, HZ1, HB, HHP, HRN, HHD⟩
      case round =>
        obtain ⟨q, P1, R1, hgq, hqN, rfl, H1, H2, H3, H4, H5⟩ := hrel
        clear HZ1 HHP HRN HHD c2
        have HG : Hid (gk = q) := hgq
        clear hgq
        by_cases hq : 0 < q
        · have hz := H1.out.1
          have hl4 := H4.out
          have c2 := hz.c2
          have rR := hz.r
          rw [HERN.out] at c2 rR
          rw [HO.out] at c2
          rw [hl4] at rR
          have xq := row_cell rR (i32n_at (show q < R1.length by omega))
          have iq := H2.out.inn q (by omega) (by omega)
          have HS : Hid (Calls Try.prog 50 #[.pointer (some ⟨b, o, none⟩), .int .i32 (gt R1 q : Nat)] wr fun e w' => e = .returned (.tuple #[]) ∧ LedS B b n N s K2 HD q w w') := by
            have hp : gt P1 (gt R1 q) = q := iq.2.2
            have := sink_any (gt R1 q) q wr hz HFK.out H2.out HKL2.out hn (by omega) iq.1 iq.2.1 (by rw [hp]; omega) (by rw [hp]; exact H3.out.down (by omega))
            rw [HO.out, hl4] at this
            refine this.mono fun e w' h => ⟨h.1, ?_⟩
            obtain ⟨P', R', hzs, hb', hp', hl', he'⟩ := h.2
            exact ⟨P', R', ⟨hzs.1, H1.out.2.trans hzs.2⟩, hb', hp', hl', fun u h1 h2 => (he' u h1 h2).trans (H5.out u h1 h2)⟩
          have hwu := wr32 (z := gt R1 q) (by omega)
          have hq1 : ((q : Int) - 1) = ((q - 1 : Nat) : Int) := by omega
          have hqn : q < N := by omega
          have hqm : 2 * (q - 1) < N := by omega
          have hqs : q - 1 + 1 = q := by omega
          have HQS : Hid (q - 1 + 1 = q ∧ q - 1 < q) := ⟨hqs, by omega⟩
          clear hz rR H1 H2 H3 H4 H5 iq hqs hl4
          generalize gt R1 q = u at *
          go_wp2_with (go_at_call 50; refine HS.out.mono ?_; rintro e w' ⟨rfl, hl⟩; have HL : Hid _ := hl; clear hl)
          obtain ⟨P2, R2, z1, z2, z3, z4, z5⟩ := HL.out
          go_roundg (q - 1)
          case rel => exact ⟨q - 1, P2, R2, rfl, hqm, by simp, z1, z2, by show HP _ _ _; rw [HQS.out.1]; exact z3, z4, z5⟩
          case measure => have := HG.out; have := HQS.out.2; omega
        · have hqe : q = 0 := by omega
          subst hqe
          have HE : Hid (LedS B b n N s K2 HD 1 w wr) := ⟨P1, R1, H1.out, H2.out, H3.out, H4.out, H5.out⟩
          clear H1 H2 H3 H4 H5
          go_wp2
          go_end0
          exact ⟨rfl, HFin2.out _ HE.out⟩
end
end Go.Proofs.Ytbfjhgiifmhccaa
