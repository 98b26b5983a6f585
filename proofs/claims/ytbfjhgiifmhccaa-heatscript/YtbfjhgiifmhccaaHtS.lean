/-
  heat: sink.
  KEEP: set on app at below new trans refl start kept mono lt add none own nil put len pos other cell ty blt fz box k p r pr a0 a1 a2 c0 c1 c2 hb setK setP setR unique grown step fin bij up q1 q2 pl held mk v1 v2
-/
import Derived.Test.YtbfjhgiifmhccaaHtR
set_option linter.unusedSimpArgs false
set_option linter.unusedVariables false
namespace Go.Proofs.Ytbfjhgiifmhccaa
open Go Go.RowKit

section
variable {B b n : Nat} {s : Hs} {K P R : List Nat}
theorem wr32m {z : Nat} (h : z ≤ 2147483647) : IntKind.i32.wrap (z : Int) = (z : Int) := by rw [IntKind.wrap_i32]; omega
/-- the lesser of the two below -/
def lesser (κ : Nat → Nat) (Rm : List Nat) (N q : Nat) : Nat := if 2 * q + 1 < N ∧ ahd κ (gt Rm (2 * q + 1)) (gt Rm (2 * q)) = true then 2 * q + 1 else 2 * q
theorem lesser_is {κ : Nat → Nat} {Rm : List Nat} {N q : Nat} (h : 2 * q < N) : lesser κ Rm N q / 2 = q ∧ lesser κ Rm N q < N ∧ 2 * q ≤ lesser κ Rm N q ∧ ∀ p, p / 2 = q → p < N → ahd κ (gt Rm p) (gt Rm (lesser κ Rm N q)) = false := by
  unfold lesser
  by_cases c : 2 * q + 1 < N ∧ ahd κ (gt Rm (2 * q + 1)) (gt Rm (2 * q)) = true
  · rw [if_pos c]
    refine ⟨by omega, c.1, by omega, fun p hp hp' => ?_⟩
    rcases (by omega : p = 2 * q ∨ p = 2 * q + 1) with rfl | rfl
    · exact ahd_asym c.2
    · exact ahd_irr _ _
  · rw [if_neg c]
    refine ⟨by omega, h, by omega, fun p hp hp' => ?_⟩
    rcases (by omega : p = 2 * q ∨ p = 2 * q + 1) with rfl | rfl
    · exact ahd_irr _ _
    · cases e : ahd κ (gt Rm (2 * q + 1)) (gt Rm (2 * q))
      · rfl
      · exact absurd ⟨hp', e⟩ c
set_option maxHeartbeats 1000000 in
theorem sink_any (v k : Nat) (w : World) (hz : Hz B w b s K P R) (hf : Fin K) (hb : Bij n R P) (hK : K.length = n + 1) (hn : n ≤ 1048576) (hRl : R.length ≤ 1048578) (hv : 1 ≤ v) (hv' : v ≤ n) (h0 : gt P v ≠ 0) (hu : DnI (gt K) R k (gt P v)) :
    Calls Try.prog 50 #[.pointer (some ⟨b, s.o, none⟩), .int .i32 (v : Int)] w fun e w' => e = .returned (.tuple #[]) ∧ LedS B b n R.length s K (fun u => gt P u ≠ 0) k w w' := by
  have hvl : v < P.length := by rw [hb.pl]; omega
  obtain ⟨gP, cP, eP, j1, j2, j3⟩ := row_some hz.p (by omega)
  obtain ⟨gR, cR, eR, j4, j5, j6⟩ := row_some hz.r (by have := hb.pos; omega)
  have b1 := hz.c1
  have b2 := hz.c2
  have rP := hz.p
  rw [eP] at b1 rP
  rw [eR] at b2
  have xP := row_cell rP (i32n_at hvl)
  obtain ⟨hh, he⟩ := Hol.start hb hv hv' h0
  have HU : Hid (DnI (gt K) (R.set (gt P v) v) k (gt P v)) := by rw [he]; exact hu
  have HH : Hid (Hol n v (gt P v) R.length (fun u => gt P u ≠ 0) P R) := hh
  have HZ : Hid (HzS B b s K P R w w) := ⟨hz, Mf.refl _ _⟩
  obtain ⟨N, hN⟩ : ∃ N : Nat, R.length = N := ⟨_, rfl⟩
  have hq0 : gt P v < N := by rw [← hN]; exact (hb.out v hv hv').1
  rw [hN] at HH hRl b2 j4 eR ⊢
  have HFK : Hid (Fin K) := hf
  have hwv := wr32 (z := v) (by omega)
  have hwN := wr32m (z := N) (by omega)
  have HER : Hid (s.R = .slice (some ⟨gR, 0, none⟩) N cR) := eR
  generalize hH : (fun u => gt P u ≠ 0) = H at *
  clear hz hb hu he hh rP hH hN h0 hf
  obtain ⟨q, hq⟩ : ∃ q, gt P v = q := ⟨_, rfl⟩
  rw [hq] at HU HH xP hq0
  clear hq
  have hq2w := wr32m (z := 2 * q) (by omega)
  have HKL : Hid (K.length = n + 1) := hK
  clear hK
  generalize P.length = NP at *
  have ho : ∃ o, s.o = o := ⟨_, rfl⟩
  obtain ⟨o, ho⟩ := ho
  have HO : Hid (s.o = o) := ho
  rw [ho] at b1 b2 ⊢
  clear ho eP eR
  go_enter Try.func50, Try.ntmps50
  go_wp2_with fail
  go_wp2_with fail
  go_quiet (fail)
  have HZ2 : Hid (HzS B b s K P R w (w.drewN nq)) := ⟨HZ.out.1.below (below_drewN _ _), HZ.out.2.trans (Mf.below (below_drewN _ _))⟩
  generalize w.drewN nq = w2 at *
  clear HZ
  go_wp2
  go_loopg [4, 6] (N - q) (fun g x y wx => ∃ (q d : Nat) (Pm Rm : List Nat), g = N - q ∧ q < N ∧ Hid (d = 2 * q) ∧ x = .int .i32 (q : Int) ∧ y = .int .i32 (d : Int) ∧ Hid (Hol n v q N H Pm Rm) ∧ Hid (DnI (gt K) (Rm.set q v) k q) ∧ Hid (HzS B b s K Pm Rm w wx))
  case atStart => exact ⟨q, 2 * q, P, R, rfl, hq0, rfl, rfl, by simp, HH, HU, HZ2⟩
  case round =>
    obtain ⟨m, d, Pm, Rm, hgm, hqN, HD, rfl, rfl, H1, H2, H3⟩ := hrel
    clear HH HU HZ2 xP hq0 b1 b2 hq2w
    have HG : Hid (gk = N - m) := hgm
    clear hgm
    have hq1 := H1.out.q1
    have hq2 := H1.out.q2
    have hwq := wr32 (z := m) (by omega)
    have hd := HD.out
    have hw2m := wr32m (z := d) (by omega)
    have HL : Hid (∀ W, Below wr.heap.size wr W → HP (gt K) (Rm.set m v) k → Calls Try.prog 43 #[.pointer (some ⟨b, o, none⟩), .int .i32 (v : Int), .int .i32 (m : Int)] W fun e w' => e = .returned (.tuple #[]) ∧ LedS B b n N s K H k w w') := fun W hW hp => by
      rw [← HO.out]
      refine (lay_any v m W (H3.out.1.below hW) (by rw [H1.out.pl]; omega) (by rw [H1.out.len]; exact hqN) (by rw [H1.out.pl]; omega) (by rw [H1.out.len]; exact hRl)).mono fun e w' h => ⟨h.1, _, _, ⟨h.2.1, (H3.out.2.trans (Mf.below hW)).trans h.2.2⟩, H1.out.bij, hp, by rw [List.length_set]; exact H1.out.len, H1.out.held⟩
    by_cases hq : 2 * m < N
    · have hz := H3.out.1
      have hle := H1.out.len
      have HC0 : ∀ c, 1 ≤ c → c < N → ∀ W, Below wr.heap.size wr W → W.cell? ⟨b, o + 2, none⟩ = some (.slice (some ⟨gR, 0, none⟩) N cR) ∧ W.cell? ⟨gR, c, none⟩ = some (.int .i32 (gt Rm c : Nat)) := fun c h1 h2 W hW => by
        have hz' := hz.below hW
        have c2 := hz'.c2
        have r2 := hz'.r
        rw [HER.out] at c2 r2
        rw [hle] at r2
        rw [HO.out] at c2
        exact ⟨c2, row_cell r2 (i32n_at (by omega))⟩
      have HA0 : ∀ c d, (1 ≤ c ∧ c ≤ n) → (1 ≤ d ∧ d ≤ n) → ∀ W, Below wr.heap.size wr W → Calls Try.prog 49 #[.pointer (some ⟨b, o, none⟩), .int .i32 (c : Nat), .int .i32 (d : Nat)] W fun e w' => e = .returned (.bool (ahd (gt K) c d)) ∧ ∃ m, w' = W.drewN m := fun c d h1 h2 W hW => by
        have := ahead_q c d W (hz.below hW) HFK.out (by rw [HKL.out]; omega) (by rw [HKL.out]; omega) (by rw [HKL.out]; omega)
        rw [HO.out] at this; exact this
      have HI : ∀ c, 1 ≤ c → c < N → c ≠ m → 1 ≤ gt Rm c ∧ gt Rm c ≤ n := fun c h1 h2 h3 => by
        obtain ⟨_, _, a3, a4, _⟩ := H1.out.at h1 h2 h3; exact ⟨a3, a4⟩
      obtain ⟨l1, l2, l3, l4⟩ := lesser_is (κ := gt K) (Rm := Rm) hq
      have HST0 : ahd (gt K) (gt Rm (lesser (gt K) Rm N m)) v = true → Hol n v (lesser (gt K) Rm N m) N H (Pm.set (gt Rm (lesser (gt K) Rm N m)) m) (Rm.set m (gt Rm (lesser (gt K) Rm N m))) ∧ DnI (gt K) ((Rm.set m (gt Rm (lesser (gt K) Rm N m))).set (lesser (gt K) Rm N m) v) k (lesser (gt K) Rm N m) := fun ha => by
        have st := H1.out.step (j := lesser (gt K) Rm N m) (by omega) l2 (by omega)
        obtain ⟨a1, a2, a3, a4, a5⟩ := H1.out.at (j := lesser (gt K) Rm N m) (by omega) l2 (by omega)
        refine ⟨st.1, ?_⟩
        rw [st.2]
        refine H2.out.step hq1 l1 (by rw [List.length_set]; omega) (fun p hp hp' => ?_) (by rw [a1, a2]; exact ha)
        rw [List.length_set, hle] at hp'
        rw [(H1.out.at (j := p) (by omega) hp' (by omega)).1, a1]
        exact l4 p hp hp'
      have HEN0 : ahd (gt K) (gt Rm (lesser (gt K) Rm N m)) v = false → HP (gt K) (Rm.set m v) k := fun ha => by
        obtain ⟨a1, a2, a3, a4, a5⟩ := H1.out.at (j := lesser (gt K) Rm N m) (by omega) l2 (by omega)
        refine H2.out.fin fun p hp _ hp' => ?_
        rw [List.length_set, hle] at hp'
        rw [(H1.out.at (j := p) (by omega) hp' (by omega)).1, a2]
        exact ahd_le (l4 p hp hp') ha
      have HLu0 : ∀ c, 1 ≤ c → c < N → c ≠ m → ∀ W, Below wr.heap.size wr W → Calls Try.prog 43 #[.pointer (some ⟨b, o, none⟩), .int .i32 (gt Rm c : Nat), .int .i32 (m : Int)] W fun e w' => e = .returned (.tuple #[]) ∧ HzS B b s K (Pm.set (gt Rm c) m) (Rm.set m (gt Rm c)) w w' := fun c h1 h2 h3 W hW => by
        have := HI c h1 h2 h3
        rw [← HO.out]
        exact (lay_any _ m W (hz.below hW) (by rw [H1.out.pl]; omega) (by omega) (by rw [H1.out.pl]; omega) (by omega)).mono fun e w' h => ⟨h.1, h.2.1, (H3.out.2.trans (Mf.below hW)).trans h.2.2⟩
      have hv2 := H1.out.v2
      clear l1 l3 l4
      obtain ⟨e, he0⟩ : ∃ e, e = d + 1 := ⟨_, rfl⟩
      have HE0 : Hid (e = d + 1 ∧ d = 2 * m) := ⟨he0, hd⟩
      have hI1 := HI d (by omega) (by omega) (by omega)
      have hi1w := wr32 (z := d) (by omega)
      obtain ⟨cb, x1⟩ := HC0 d (by omega) (by omega) wr (Below.refl _ _)
      have hdN : d < N := by omega
      have hdm : m < d := by omega
      by_cases h1 : e < N
      · have hw2m1 := wr32m (z := e) (by omega)
        have hI2 := HI e (by omega) (by omega) (by omega)
        have hi2w := wr32 (z := e) (by omega)
        obtain ⟨_, x2⟩ := HC0 e (by omega) (by omega) wr (Below.refl _ _)
        have hei : (d : Int) + 1 = (e : Int) := by omega
        have hem : m < e := by omega
        cases ha1 : ahd (gt K) (gt Rm e) (gt Rm d)
        · have el : lesser (gt K) Rm N m = d := by unfold lesser; rw [← hd, ← he0, if_neg (by rw [ha1]; simp)]
          rw [el] at HST0 HEN0
          have HST : Hid _ := HST0
          have HEN : Hid _ := HEN0
          have HC : Hid _ := HC0 d (by omega) (by omega)
          have HLu : Hid _ := HLu0 d (by omega) (by omega) (by omega)
          have HUB : Hid _ := hI1.2
          have HA : Hid _ := HA0 _ v hI1 ⟨hv, hv2⟩
          have HAB0 := HA0 _ _ hI2 hI1
          rw [ha1] at HAB0
          have HAB : Hid _ := HAB0
          clear HST0 HEN0 HC0 HLu0 HA0 HAB0 HI hz el ha1 l2 hd he0
          generalize gt Rm e = ue at *
          go_upto_region 4 with fail
          go_quiet ((go_at_call 49; exact Calls.quiet_of (HAB.out _ (below_drewN _ _))))
          have hWd : Below wr.heap.size wr (wr.drewN nq) := below_drewN _ _
          generalize wr.drewN nq = wq at *
          obtain ⟨cb2, _⟩ := HC.out wq hWd
          clear cb x1 x2
          have hcw := wr32 (z := d) (by omega)
          cases ha : ahd (gt K) (gt Rm d) v
          · have HE : Hid (HP (gt K) (Rm.set m v) k) := HEN.out ha
            have HA2 := HA.out wq hWd
            rw [ha] at HA2
            have HA3 : Hid (Calls Try.prog 49 #[.pointer (some ⟨b, o, none⟩), .int .i32 (gt Rm d : Nat), .int .i32 (v : Int)] wq fun e w' => e = .returned (.bool false) ∧ Below wr.heap.size wr w') := HA2.mono fun e w' ⟨h, m, hm⟩ => ⟨h, by rw [hm]; exact Below.step hWd (below_drewN _ _)⟩
            have hcc := (HC.out wq hWd).2
            clear HA2 HA HST HEN ha HAB
            generalize gt Rm d = u at *
            go_wp2_with (first | (go_at_call 49; refine HA3.out.mono ?_; rintro e w5 ⟨rfl, h5⟩) | (go_at_call 43; refine (HL.out _ h5 HE.out).mono ?_; rintro e w' ⟨rfl, hl⟩))
            go_end0
            exact ⟨rfl, hl⟩
          · have HE1 : Hid (Hol n v d N H (Pm.set (gt Rm d) m) (Rm.set m (gt Rm d))) := (HST.out ha).1
            have HE2 : Hid (DnI (gt K) ((Rm.set m (gt Rm d)).set (d) v) k (d)) := (HST.out ha).2
            have HA2 := HA.out wq hWd
            rw [ha] at HA2
            have HA3 : Hid (Calls Try.prog 49 #[.pointer (some ⟨b, o, none⟩), .int .i32 (gt Rm d : Nat), .int .i32 (v : Int)] wq fun e w' => e = .returned (.bool true) ∧ Below wr.heap.size wr w') := HA2.mono fun e w' ⟨h, m, hm⟩ => ⟨h, by rw [hm]; exact Below.step hWd (below_drewN _ _)⟩
            have hcc := (HC.out wq hWd).2
            have h2c := wr32m (z := 2 * (d)) (by omega)
            have hwu := wr32 (z := gt Rm d) (by have := HUB.out; omega)
            have hcg : N - (d) < N - m := by omega
            have hcN : d < N := by omega
            clear HA2 HA HST HEN ha HL HAB
            generalize gt Rm d = u at *
            go_wp2_with (first | (go_at_call 49; refine HA3.out.mono ?_; rintro e w5 ⟨rfl, h5⟩; obtain ⟨c5, d5⟩ := HC.out _ h5) | (go_at_call 43; refine (HLu.out _ h5).mono ?_; rintro e w' ⟨rfl, hl⟩))
            go_roundg (N - (d))
            case rel => exact ⟨d, 2 * d, Pm.set u m, Rm.set m u, rfl, hcN, rfl, rfl, by simp, HE1, HE2, hl⟩
            case measure => have := HG.out; omega
        · have el : lesser (gt K) Rm N m = e := by unfold lesser; rw [← hd, ← he0, if_pos ⟨h1, ha1⟩]
          rw [el] at HST0 HEN0
          have HST : Hid _ := HST0
          have HEN : Hid _ := HEN0
          have HC : Hid _ := HC0 e (by omega) (by omega)
          have HLu : Hid _ := HLu0 e (by omega) (by omega) (by omega)
          have HUB : Hid _ := hI2.2
          have HA : Hid _ := HA0 _ v hI2 ⟨hv, hv2⟩
          have HAB0 := HA0 _ _ hI2 hI1
          rw [ha1] at HAB0
          have HAB : Hid _ := HAB0
          clear HST0 HEN0 HC0 HLu0 HA0 HAB0 HI hz el ha1 l2 hd he0
          generalize gt Rm d = ud at *
          go_upto_region 4 with fail
          go_quiet ((go_at_call 49; exact Calls.quiet_of (HAB.out _ (below_drewN _ _))))
          have hWd : Below wr.heap.size wr (wr.drewN nq) := below_drewN _ _
          generalize wr.drewN nq = wq at *
          obtain ⟨cb2, _⟩ := HC.out wq hWd
          clear cb x1 x2
          have hcw := wr32 (z := e) (by omega)
          cases ha : ahd (gt K) (gt Rm e) v
          · have HE : Hid (HP (gt K) (Rm.set m v) k) := HEN.out ha
            have HA2 := HA.out wq hWd
            rw [ha] at HA2
            have HA3 : Hid (Calls Try.prog 49 #[.pointer (some ⟨b, o, none⟩), .int .i32 (gt Rm e : Nat), .int .i32 (v : Int)] wq fun e w' => e = .returned (.bool false) ∧ Below wr.heap.size wr w') := HA2.mono fun e w' ⟨h, m, hm⟩ => ⟨h, by rw [hm]; exact Below.step hWd (below_drewN _ _)⟩
            have hcc := (HC.out wq hWd).2
            clear HA2 HA HST HEN ha HAB
            generalize gt Rm e = u at *
            go_wp2_with (first | (go_at_call 49; refine HA3.out.mono ?_; rintro e w5 ⟨rfl, h5⟩) | (go_at_call 43; refine (HL.out _ h5 HE.out).mono ?_; rintro e w' ⟨rfl, hl⟩))
            go_end0
            exact ⟨rfl, hl⟩
          · have HE1 : Hid (Hol n v e N H (Pm.set (gt Rm e) m) (Rm.set m (gt Rm e))) := (HST.out ha).1
            have HE2 : Hid (DnI (gt K) ((Rm.set m (gt Rm e)).set (e) v) k (e)) := (HST.out ha).2
            have HA2 := HA.out wq hWd
            rw [ha] at HA2
            have HA3 : Hid (Calls Try.prog 49 #[.pointer (some ⟨b, o, none⟩), .int .i32 (gt Rm e : Nat), .int .i32 (v : Int)] wq fun e w' => e = .returned (.bool true) ∧ Below wr.heap.size wr w') := HA2.mono fun e w' ⟨h, m, hm⟩ => ⟨h, by rw [hm]; exact Below.step hWd (below_drewN _ _)⟩
            have hcc := (HC.out wq hWd).2
            have h2c := wr32m (z := 2 * (e)) (by omega)
            have hwu := wr32 (z := gt Rm e) (by have := HUB.out; omega)
            have hcg : N - (e) < N - m := by omega
            have hcN : e < N := by omega
            clear HA2 HA HST HEN ha HL HAB
            generalize gt Rm e = u at *
            go_wp2_with (first | (go_at_call 49; refine HA3.out.mono ?_; rintro e w5 ⟨rfl, h5⟩; obtain ⟨c5, d5⟩ := HC.out _ h5) | (go_at_call 43; refine (HLu.out _ h5).mono ?_; rintro e w' ⟨rfl, hl⟩))
            go_roundg (N - (e))
            case rel => exact ⟨e, 2 * e, Pm.set u m, Rm.set m u, rfl, hcN, rfl, rfl, by simp, HE1, HE2, hl⟩
            case measure => have := HG.out; omega
      · have el : lesser (gt K) Rm N m = d := by unfold lesser; rw [← hd, ← he0, if_neg (fun h => h1 h.1)]
        rw [el] at HST0 HEN0
        have HST : Hid _ := HST0
        have HEN : Hid _ := HEN0
        have HC : Hid _ := HC0 d (by omega) (by omega)
        have HLu : Hid _ := HLu0 d (by omega) (by omega) (by omega)
        have HUB : Hid _ := hI1.2
        have HA : Hid _ := HA0 _ v hI1 ⟨hv, hv2⟩
        have HAB : Hid True := trivial
        have hei : (d : Int) + 1 = (e : Int) := by omega
        have hw2m1 := wr32m (z := e) (by omega)
        clear HST0 HEN0 HC0 HLu0 HA0 HI hz el l2 hd he0
        go_upto_region 4 with fail
        go_quiet (fail)
        have hWd : Below wr.heap.size wr (wr.drewN nq) := below_drewN _ _
        generalize wr.drewN nq = wq at *
        obtain ⟨cb2, _⟩ := HC.out wq hWd
        clear cb x1
        have hcw := wr32 (z := d) (by omega)
        cases ha : ahd (gt K) (gt Rm d) v
        · have HE : Hid (HP (gt K) (Rm.set m v) k) := HEN.out ha
          have HA2 := HA.out wq hWd
          rw [ha] at HA2
          have HA3 : Hid (Calls Try.prog 49 #[.pointer (some ⟨b, o, none⟩), .int .i32 (gt Rm d : Nat), .int .i32 (v : Int)] wq fun e w' => e = .returned (.bool false) ∧ Below wr.heap.size wr w') := HA2.mono fun e w' ⟨h, m, hm⟩ => ⟨h, by rw [hm]; exact Below.step hWd (below_drewN _ _)⟩
          have hcc := (HC.out wq hWd).2
          clear HA2 HA HST HEN ha HAB
          generalize gt Rm d = u at *
          go_wp2_with (first | (go_at_call 49; refine HA3.out.mono ?_; rintro e w5 ⟨rfl, h5⟩) | (go_at_call 43; refine (HL.out _ h5 HE.out).mono ?_; rintro e w' ⟨rfl, hl⟩))
          go_end0
          exact ⟨rfl, hl⟩
        · have HE1 : Hid (Hol n v d N H (Pm.set (gt Rm d) m) (Rm.set m (gt Rm d))) := (HST.out ha).1
          have HE2 : Hid (DnI (gt K) ((Rm.set m (gt Rm d)).set (d) v) k (d)) := (HST.out ha).2
          have HA2 := HA.out wq hWd
          rw [ha] at HA2
          have HA3 : Hid (Calls Try.prog 49 #[.pointer (some ⟨b, o, none⟩), .int .i32 (gt Rm d : Nat), .int .i32 (v : Int)] wq fun e w' => e = .returned (.bool true) ∧ Below wr.heap.size wr w') := HA2.mono fun e w' ⟨h, m, hm⟩ => ⟨h, by rw [hm]; exact Below.step hWd (below_drewN _ _)⟩
          have hcc := (HC.out wq hWd).2
          have h2c := wr32m (z := 2 * (d)) (by omega)
          have hwu := wr32 (z := gt Rm d) (by have := HUB.out; omega)
          have hcg : N - (d) < N - m := by omega
          have hcN : d < N := by omega
          clear HA2 HA HST HEN ha HL HAB
          generalize gt Rm d = u at *
          go_wp2_with (first | (go_at_call 49; refine HA3.out.mono ?_; rintro e w5 ⟨rfl, h5⟩; obtain ⟨c5, d5⟩ := HC.out _ h5) | (go_at_call 43; refine (HLu.out _ h5).mono ?_; rintro e w' ⟨rfl, hl⟩))
          go_roundg (N - (d))
          case rel => exact ⟨d, 2 * d, Pm.set u m, Rm.set m u, rfl, hcN, rfl, rfl, by simp, HE1, HE2, hl⟩
          case measure => have := HG.out; omega
    · have HE : Hid (HP (gt K) (Rm.set m v) k) := H2.out.fin fun p hp h2 hp' => by
        have := H1.out.len
        rw [List.length_set] at hp'; omega
      have hdN : ¬ d < N := by omega
      clear hq
      go_wp2_with (go_at_call 43; refine (HL.out _ (Below.refl _ _) HE.out).mono ?_; rintro e w' ⟨rfl, hl⟩)
      go_end0
      exact ⟨rfl, hl⟩
end
end Go.Proofs.Ytbfjhgiifmhccaa
