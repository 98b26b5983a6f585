/-
  heat: rise.
  KEEP: set on app at below new trans refl start kept mono lt add none own nil put len pos other cell ty blt fz box k p r pr a0 a1 a2 c0 c1 c2 hb setK setP setR unique grown step fin bij up q1 q2 pl held mk
-/
import Derived.Test.YtbfjhgiifmhccaaHtA
import Derived.Deep.LoopGhost
set_option linter.unusedSimpArgs false
set_option linter.unusedVariables false
namespace Go.Proofs.Ytbfjhgiifmhccaa
open Go Go.RowKit

section
variable {B b n : Nat} {s : Hs} {K P R : List Nat}
/-- the row with a hole at q, where v belongs -/
structure Hol (n v q N : Nat) (H : Nat → Prop) (Pm Rm : List Nat) : Prop where
  bij : Bij n (Rm.set q v) (Pm.set v q)
  q1 : 1 ≤ q
  q2 : q < Rm.length
  len : Rm.length = N
  pl : Pm.length = n + 1
  v1 : 1 ≤ v
  v2 : v ≤ n
  held : ∀ u, 1 ≤ u → u ≤ n → (gt (Pm.set v q) u ≠ 0 ↔ H u)
theorem Hol.start {v : Nat} (h : Bij n R P) (hv : 1 ≤ v) (hv' : v ≤ n) (h0 : gt P v ≠ 0) : Hol n v (gt P v) R.length (fun u => gt P u ≠ 0) P R ∧ R.set (gt P v) v = R := by
  have o := h.out v hv hv'
  have e1 : R.set (gt P v) v = R := by
    have := o.2 h0
    refine List.ext_getElem (by simp) fun k h1 h2 => ?_
    rw [List.getElem_set]
    split
    · rename_i e
      subst e
      have g := gt_at h2
      rw [List.getElem?_eq_getElem h2] at g
      injection g with g
      rw [g, this]
    · rfl
  have hvl : v < P.length := by rw [h.pl]; omega
  have e2 : P.set v (gt P v) = P := by
    refine List.ext_getElem (by simp) fun k h1 h2 => ?_
    rw [List.getElem_set]
    split
    · rename_i e
      subst e
      have g := gt_at h2
      rw [List.getElem?_eq_getElem h2] at g
      injection g with g
      exact g.symm
    · rfl
  exact ⟨⟨by rw [e1, e2]; exact h, by omega, o.1, rfl, h.pl, hv, hv', fun u _ _ => by rw [e2]⟩, e1⟩
theorem Hol.at {v q N : Nat} {H : Nat → Prop} {Pm Rm : List Nat} (h : Hol n v q N H Pm Rm) {j : Nat} (hj : 1 ≤ j) (hj' : j < N) (hne : j ≠ q) : gt (Rm.set q v) j = gt Rm j ∧ gt (Rm.set q v) q = v ∧ 1 ≤ gt Rm j ∧ gt Rm j ≤ n ∧ gt Rm j ≠ v := by
  have e1 : gt (Rm.set q v) j = gt Rm j := by rw [gt_set h.q2, if_neg hne]
  have e2 : gt (Rm.set q v) q = v := by rw [gt_set h.q2, if_pos rfl]
  have hl := h.len
  have a := h.bij.inn j hj (by rw [List.length_set]; omega)
  rw [e1] at a
  refine ⟨e1, e2, a.1, a.2.1, fun e => hne ?_⟩
  exact h.bij.inj hj (by rw [List.length_set]; omega) h.q1 (by rw [List.length_set]; exact h.q2) (by rw [e1, e2, e])
theorem Hol.step {v q N : Nat} {H : Nat → Prop} {Pm Rm : List Nat} (h : Hol n v q N H Pm Rm) {j : Nat} (hj : 1 ≤ j) (hj' : j < N) (hne : j ≠ q) :
    Hol n v j N H (Pm.set (gt Rm j) q) (Rm.set q (gt Rm j)) ∧ (Rm.set q (gt Rm j)).set j v = swpR (Rm.set q v) q j := by
  obtain ⟨e1, e2, a1, a2, a3⟩ := h.at hj hj' hne
  have hl := h.len
  have eR : (Rm.set q (gt Rm j)).set j v = swpR (Rm.set q v) q j := by
    unfold swpR; rw [e1, e2, List.set_set]
  have eP : (Pm.set (gt Rm j) q).set v j = swpP (Rm.set q v) (Pm.set v q) q j := by
    unfold swpP; rw [e1, e2, List.set_comm _ _ (fun e => a3 e.symm), List.set_set]
  have sw := h.bij.swp h.q1 (by rw [List.length_set]; exact h.q2) hj (by rw [List.length_set]; omega) (fun e => hne e.symm)
  exact ⟨⟨by rw [eR, eP]; exact sw.1, hj, by rw [List.length_set]; omega, by rw [List.length_set]; exact hl, by rw [List.length_set]; exact h.pl, h.v1, h.v2, fun u h1 h2 => by rw [eP]; exact (sw.2 u h1 h2).trans (h.held u h1 h2)⟩, eR⟩

/-- what a leading up or down ends in -/
def LedS (B b n N : Nat) (s : Hs) (K : List Nat) (H : Nat → Prop) (k : Nat) (w w' : World) : Prop := ∃ P' R', HzS B b s K P' R' w w' ∧ Bij n R' P' ∧ HP (gt K) R' k ∧ R'.length = N ∧ ∀ u, 1 ≤ u → u ≤ n → (gt P' u ≠ 0 ↔ H u)
theorem half_nat (q : Nat) : ((q : Int).tdiv 2) = ((q / 2 : Nat) : Int) := by rw [Int.tdiv_eq_ediv_of_nonneg (by omega)]; omega
set_option maxHeartbeats 1000000 in
theorem rise_any (v : Nat) (w : World) (hz : Hz B w b s K P R) (hf : Fin K) (hb : Bij n R P) (hK : K.length = n + 1) (hn : n ≤ 1048576) (hRl : R.length ≤ 1048578) (hv : 1 ≤ v) (hv' : v ≤ n) (h0 : gt P v ≠ 0) (hu : UpI (gt K) R (gt P v)) :
    Calls Try.prog 51 #[.pointer (some ⟨b, s.o, none⟩), .int .i32 (v : Int)] w fun e w' => e = .returned (.tuple #[]) ∧ LedS B b n R.length s K (fun u => gt P u ≠ 0) 1 w w' := by
  have hvl : v < P.length := by rw [hb.pl]; omega
  obtain ⟨gP, cP, eP, j1, j2, j3⟩ := row_some hz.p (by omega)
  have b1 := hz.c1
  have rP := hz.p
  rw [eP] at b1 rP
  have xP := row_cell rP (i32n_at hvl)
  obtain ⟨hh, he⟩ := Hol.start hb hv hv' h0
  have HU : Hid (UpI (gt K) (R.set (gt P v) v) (gt P v)) := by rw [he]; exact hu
  have HH : Hid (Hol n v (gt P v) R.length (fun u => gt P u ≠ 0) P R) := hh
  have HZ : Hid (HzS B b s K P R w w) := ⟨hz, Mf.refl _ _⟩
  obtain ⟨N, hN⟩ : ∃ N : Nat, R.length = N := ⟨_, rfl⟩
  have hq0 : gt P v < N := by rw [← hN]; exact (hb.out v hv hv').1
  rw [hN] at HH hRl ⊢
  have HFK : Hid (Fin K) := hf
  have hwv := wr32 (z := v) (by omega)
  generalize hH : (fun u => gt P u ≠ 0) = H at *
  clear hz hb hu he hh rP hH hN h0 hf
  obtain ⟨q, hq⟩ : ∃ q, gt P v = q := ⟨_, rfl⟩
  rw [hq] at HU HH xP hq0
  clear hq
  have HKL : Hid (K.length = n + 1) := hK
  clear hK
  generalize P.length = NP at *
  have ho : ∃ o, s.o = o := ⟨_, rfl⟩
  obtain ⟨o, ho⟩ := ho
  have HO : Hid (s.o = o) := ho
  rw [ho] at b1 ⊢
  clear ho eP
  go_enter Try.func51, Try.ntmps51
  go_wp2
  go_loopg [4] q (fun g x wx => ∃ (q : Nat) (Pm Rm : List Nat), g = q ∧ q < N ∧ x = .int .i32 (q : Int) ∧ Hid (Hol n v q N H Pm Rm) ∧ Hid (UpI (gt K) (Rm.set q v) q) ∧ Hid (HzS B b s K Pm Rm w wx))
  case atStart => exact ⟨q, P, R, rfl, hq0, rfl, HH, HU, HZ⟩
  case round =>
    obtain ⟨m, Pm, Rm, hgm, hqN, rfl, H1, H2, H3⟩ := hrel
    clear HH HU HZ xP hq0 b1
    have HG : Hid (gk = m) := hgm
    clear hgm
    have hq1 := H1.out.q1
    have hq2 := H1.out.q2
    have hwq := wr32 (z := m) (by omega)
    -- the end: lay
    have HL : Hid (∀ W, Below wr.heap.size wr W → HP (gt K) (Rm.set m v) 1 → Calls Try.prog 43 #[.pointer (some ⟨b, o, none⟩), .int .i32 (v : Int), .int .i32 (m : Int)] W fun e w' => e = .returned (.tuple #[]) ∧ LedS B b n N s K H 1 w w') := fun W hW hp => by
      rw [← HO.out]
      refine (lay_any v m W (H3.out.1.below hW) (by rw [H1.out.pl]; omega) (by rw [H1.out.len]; exact hqN) (by rw [H1.out.pl]; omega) (by rw [H1.out.len]; exact hRl)).mono fun e w' h => ⟨h.1, _, _, ⟨h.2.1, (H3.out.2.trans (Mf.below hW)).trans h.2.2⟩, H1.out.bij, hp, by rw [List.length_set]; exact H1.out.len, H1.out.held⟩
    by_cases hq : m ≤ 1
    · have HP1 := H2.out.fin (.inl hq)
      have HPX : Hid (HP (gt K) (Rm.set m v) 1) := HP1
      clear HP1
      have hqe : m = 1 := by omega
      subst hqe
      go_wp2_with (go_at_call 43; refine (HL.out _ (Below.refl _ _) HPX.out).mono ?_; rintro e w' ⟨rfl, hl⟩)
      go_end0
      exact ⟨rfl, hl⟩
    · obtain ⟨a1, a2, a3, a4, a5⟩ := H1.out.at (j := m / 2) (by omega) (by omega) (by omega)
      have hz := H3.out.1
      have hle := H1.out.len
      obtain ⟨gR, cR, eR, k1, k2, k3⟩ := row_some hz.r (by omega)
      have b2 := hz.c2
      have rR := hz.r
      rw [eR] at b2 rR
      have xR := row_cell rR (i32n_at (show m / 2 < Rm.length by omega))
      rw [HO.out] at b2
      have HA : Hid (Calls Try.prog 49 #[.pointer (some ⟨b, o, none⟩), .int .i32 (v : Int), .int .i32 (gt Rm (m / 2) : Nat)] wr fun e w' => e = .returned (.bool (ahd (gt K) v (gt Rm (m / 2)))) ∧ Below wr.heap.size wr w') := by
        have := ahead_any v (gt Rm (m / 2)) wr hz HFK.out (by rw [HKL.out]; omega) (by rw [HKL.out]; omega) (by rw [HKL.out]; omega)
        rw [HO.out] at this; exact this
      have hst := H1.out.step (j := m / 2) (by omega) (by omega) (by omega)
      have HLu : Hid (∀ W, Below wr.heap.size wr W → Calls Try.prog 43 #[.pointer (some ⟨b, o, none⟩), .int .i32 (gt Rm (m / 2) : Nat), .int .i32 (m : Int)] W fun e w' => e = .returned (.tuple #[]) ∧ HzS B b s K (Pm.set (gt Rm (m / 2)) m) (Rm.set m (gt Rm (m / 2))) w w') := fun W hW => by
        rw [← HO.out]
        exact (lay_any _ m W (hz.below hW) (by rw [H1.out.pl]; omega) (by omega) (by rw [H1.out.pl]; omega) (by omega)).mono fun e w' h => ⟨h.1, h.2.1, (H3.out.2.trans (Mf.below hW)).trans h.2.2⟩
      have HB2 : Hid (∀ W, Below wr.heap.size wr W → W.cell? ⟨b, o + 2, none⟩ = some (.slice (some ⟨gR, 0, none⟩) Rm.length cR) ∧ W.cell? ⟨gR, m / 2, none⟩ = some (.int .i32 (gt Rm (m / 2) : Nat))) := fun W hW => by
        have hz' := hz.below hW
        have c2 := hz'.c2
        have r2 := hz'.r
        rw [eR] at c2 r2
        rw [HO.out] at c2
        exact ⟨c2, row_cell r2 (i32n_at (show m / 2 < Rm.length by omega))⟩
      have HST : Hid (ahd (gt K) v (gt Rm (m / 2)) = true → Hol n v (m / 2) N H (Pm.set (gt Rm (m / 2)) m) (Rm.set m (gt Rm (m / 2))) ∧ UpI (gt K) ((Rm.set m (gt Rm (m / 2))).set (m / 2) v) (m / 2)) := fun ha => by
        refine ⟨hst.1, ?_⟩
        rw [hst.2]
        exact H2.out.step (by omega) (by rw [List.length_set]; exact hq2) (by rw [a1, a2]; exact ha)
      have HEN : Hid (ahd (gt K) v (gt Rm (m / 2)) = false → HP (gt K) (Rm.set m v) 1) := fun ha => H2.out.fin (.inr (by rw [a1, a2]; exact ha))
      clear hst hz rR eR a1 a2 a5
      have hd2 := half_nat m
      have hw2 := wr32 (z := m / 2) (by omega)
      have hjq : m / 2 < m := by omega
      have hj1 : 1 ≤ m / 2 := by omega
      have hjN : m / 2 < N := by omega
      have hq2' : (1 : Int) < (m : Int) := by omega
      generalize m / 2 = j at *
      generalize hu : gt Rm j = u at *
      have hwu := wr32 (z := u) (by omega)
      generalize hNR : Rm.length = NR at *
      clear hu hNR hq
      cases ha : ahd (gt K) v u
      · rw [ha] at HA
        have HPH : Hid (HP (gt K) (Rm.set m v) 1) := HEN.out ha
        clear HEN HST ha
        go_wp2_with (first | (go_at_call 49; refine HA.out.mono ?_; rintro e w5 ⟨rfl, h5⟩) | (go_at_call 43; refine (HL.out _ h5 HPH.out).mono ?_; rintro e w' ⟨rfl, hl⟩))
        go_end0
        exact ⟨rfl, hl⟩
      · rw [ha] at HA
        have hs1 := HST.out ha
        have HS1 : Hid (Hol n v j N H (Pm.set u m) (Rm.set m u)) := hs1.1
        have HS2 : Hid (UpI (gt K) ((Rm.set m u).set j v) j) := hs1.2
        clear hs1 HST HEN ha
        go_wp2_with (first | (go_at_call 49; refine HA.out.mono ?_; rintro e w5 ⟨rfl, h5⟩; obtain ⟨c5, d5⟩ := HB2.out _ h5) | (go_at_call 43; refine (HLu.out _ h5).mono ?_; rintro e w' ⟨rfl, hl⟩))
        go_roundg j
        case rel => exact ⟨j, Pm.set u m, Rm.set m u, rfl, hjN, by simp, HS1, HS2, hl⟩
        case measure => have := HG.out; omega
end
end Go.Proofs.Ytbfjhgiifmhccaa
