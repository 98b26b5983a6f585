/-
  heat: step.
  KEEP: set on app at below new trans refl start kept mono lt add none own nil put len pos other cell ty blt fz box k p r pr a0 a1 a2 c0 c1 c2 hb setK setP setR unique grown step fin bij up q1 q2 pl held mk v1 v2 t1 t2 hs few cut root z kl nl sl d1 d2 row down has holds stp bel heat cells sc wi mem srt inn inj out lays ap kind rd rds bump cool weak types foreign rows cong form heat nodup s w ord rest apS apV ht rz goX goY
-/
import Derived.Test.YtbfjhgiifmhccaaHrP
set_option linter.unusedSimpArgs false
set_option linter.unusedVariables false
namespace Go.Proofs.Ytbfjhgiifmhccaa
open Go Go.RowKit
attribute [local go_sem] run_store_float

/-- what a step leaves behind -/
def StH (B C : Nat) (w : World) (x : Nat) (v : Hv) (y : Nat) (s : Rv) (n dec : Nat) (e : Ending) (w' : World) : Prop := e = .returned (.bool true) ∧ ∃ v' st' K' H', Ph B C w' x v' y s n dec st' K' H' st' K' H' ∧ Mf w (prH x v y s) w' (prH x v' y s)
theorem ord_both {B C x y n dec st : Nat} {v : Hv} {s : Rv} {K : List Nat} {H : Nat → Bool} (w : World) (h : Ph B C w x v y s n dec st K H st K H) :
    ∃ L : List Int, L.length ≤ 1048576 ∧ Calls Try.prog 17 #[.pointer (some ⟨x, 0, none⟩)] w (fun e w' => ∃ u, e = .returned u ∧ Own w.heap.size w' u L ∧ Below w.heap.size w w') ∧
      ∀ W, Below w.heap.size w W → Calls Try.prog 34 #[.pointer (some ⟨y, 0, none⟩)] W (fun e w' => ∃ u, e = .returned u ∧ Own W.heap.size w' u L ∧ Below W.heap.size W w') := by
  have hex : ∃ S, IsOrd (gt K) H n S := by
    have : ∀ k, ∃ L, OrI (gt K) H n L ∧ (L.length = k ∨ IsOrd (gt K) H n L) := fun k => by
      induction k with
      | zero => exact ⟨[], OrI.nil _ _ _, .inl rfl⟩
      | succ k ih =>
        obtain ⟨L, h1, h2⟩ := ih
        rcases h2 with h2 | h2
        · obtain ⟨t, ht⟩ := wb_some (gt K) (mrkO L H) n
          by_cases h0 : t = 0
          · subst h0; exact ⟨L, h1, .inr (h1.fin ht)⟩
          · exact ⟨L ++ [t], h1.step ht (by omega), .inl (by rw [List.length_append, h2]; rfl)⟩
        · exact ⟨L, h1, .inr h2⟩
    obtain ⟨L, h1, h2⟩ := this (n + 1)
    rcases h2 with h2 | h2
    · have := h1.few; omega
    · exact ⟨L, h2⟩
  obtain ⟨S, hS⟩ := hex
  refine ⟨S.map fun (x : Nat) => (x : Int), by rw [List.length_map]; exact Nat.le_trans (ord_few hS) h.ht.nl, (order_any w h.ht).mono fun e w' hh => ?_, fun W hW => (rorder_any W (h.rz.below hW)).mono fun e w' hh => ?_⟩
  · obtain ⟨S', u, he, h1, h2, h3⟩ := hh
    rw [h1.unique hS] at h2
    exact ⟨u, he, h2, h3⟩
  · obtain ⟨S', u, he, h1, h2, h3⟩ := hh
    rw [h1.unique hS] at h2
    exact ⟨u, he, h2, h3⟩
theorem bx3c {W : World} {b : Nat} {t : TypeId} {x0 x1 x2 : Value} (h : W.heap[b]? = some (.cells #[x0, x1, x2] t (0, 0))) : W.cell? ⟨b, 1, none⟩ = some x1 ∧ W.cell? ⟨b, 2, none⟩ = some x2 := by simp [World.cell?, h]
set_option maxRecDepth 100000 in
set_option maxHeartbeats 12800000 in
theorem step_any14 (B C x : Nat) (v : Hv) (y : Nat) (s : Rv) (n dec st : Nat) (K : List Nat) (H : Nat → Bool) (on kd nn : Int) (w : World) (h : Ph B C w x v y s n dec st K H st K H) :
    Calls Try.prog 12 #[.pointer (some ⟨x, 0, none⟩), .pointer (some ⟨y, 0, none⟩), .agg #[.int .i64 on, .int .i64 kd, .int .i64 nn]] w (StH B C w x v y s n dec) := by
  have hb0 := below_box w (.cells #[.int .i64 on, .int .i64 kd, .int .i64 nn] 39)
  have HP : Hid (Ph B C (w.alloc (.cells #[.int .i64 on, .int .i64 kd, .int .i64 nn] 39)) x v y s n dec st K H st K H) := h.below hb0
  have HM0 : Hid (Mf w (prH x v y s) (w.alloc (.cells #[.int .i64 on, .int .i64 kd, .int .i64 nn] 39)) (prH x v y s)) := Mf.below hb0
  have HD : Hid (∀ k, prH x v y s k → k < w.heap.size) := h.lt
  have HBx : Hid ((w.alloc (.cells #[.int .i64 on, .int .i64 kd, .int .i64 nn] 39)).heap[w.heap.size]? = some (.cells #[.int .i64 on, .int .i64 kd, .int .i64 nn] 39 (0, 0))) := World.alloc_heap_new w _
  have hsz : w.heap.size < (w.alloc (.cells #[.int .i64 on, .int .i64 kd, .int .i64 nn] 39)).heap.size := by rw [World.size_alloc]; omega
  have HPk : Hid (∀ W, Calls Try.prog 9 #[.int .i64 kd, .int .i64 7] W fun e w' => e = .returned (.int .i64 (pk14 kd 7 : Nat)) ∧ w' = W) := fun W => pick14_any kd 7 W (by omega) (by omega)
  have hp := pk14_lt kd (k := 7) (by omega)
  have HFin : Hid (∀ (W' : World) (v' : Hv) (st' : Nat) (K' : List Nat) (H' : Nat → Bool), Ph B C W' x v' y s n dec st' K' H' st' K' H' → Mf w (prH x v y s) W' (prH x v' y s) → StH B C w x v y s n dec (.returned (.bool true)) W') := fun W' v' st' K' H' h1 h2 => ⟨rfl, v', st', K', H', h1, h2⟩
  have c1 : (w.alloc (.cells #[.int .i64 on, .int .i64 kd, .int .i64 nn] 39)).cell? ⟨w.heap.size, 1, none⟩ = some (.int .i64 kd) := (bx3c HBx.out).1
  have c2 : (w.alloc (.cells #[.int .i64 on, .int .i64 kd, .int .i64 nn] 39)).cell? ⟨w.heap.size, 2, none⟩ = some (.int .i64 nn) := (bx3c HBx.out).2
  have hf := h.ht.fin
  have HSc : Hid _ := score_both (n := n) (dec := dec) (st := st) (H := H) nn hf
  clear h hb0 hf
  go_enter Try.func12, Try.ntmps12
  go_wp2_with fail
  generalize hW0 : w.alloc (.cells #[.int .i64 on, .int .i64 kd, .int .i64 nn] 39) = W0 at *
  clear hW0
  have HS : Hid (∀ W', Below W0.heap.size W0 W' → W'.cell? ⟨w.heap.size, 2, none⟩ = some (.int .i64 nn)) := fun W' h => (h.cell (p := ⟨w.heap.size, 2, none⟩) hsz).trans c2
  have HS2 : Hid (∀ W' P', Mf W0 (prH x v y s) W' P' → W'.cell? ⟨w.heap.size, 2, none⟩ = some (.int .i64 nn)) := fun W' P' h => by
    have h1 := (h.block _ hsz (fun h2 => by have := HD.out _ h2; omega)).trans HBx.out
    simp [World.cell?, h1]
  refine (HPk.out W0).mono ?_
  rintro e w1 ⟨rfl, rfl⟩
  clear HBx HD HPk hsz
  generalize pk14 kd 7 = p at *
  rcases (show p = 0 ∨ p = 1 ∨ p = 2 ∨ p = 3 ∨ p = 4 ∨ p = 5 ∨ p = 6 by omega) with rfl | rfl | rfl | rfl | rfl | rfl | rfl
  · obtain ⟨r, st2, K2, bx, by'⟩ := bump_both (n := n) (dec := dec) (st := st) (K := K) (H := H) nn
    have HX : Hid (CX 23 [.int .i64 nn] n dec st K H (.int .i64 r) st2 K2 H) := bx
    have HY : Hid (CY 28 [.int .i64 nn] n dec st K H (.int .i64 r) st2 K2 H) := by'
    clear bx by' HSc
    go_upto_region 3 with fail
    go_region_held (fun W' => W'.cell? ⟨w.heap.size, 2, none⟩ = some (.int .i64 nn)) (first | exact HS.out _ (Below.refl _ _).drew | exact HS2.out _ _ O3.out.2 | exact HS2.out _ _ O4.out.2) (first
      | (have h3 := O3; clear h3; go_at_call 28; refine (HY.out _ _ _ w3 O3.out.1.rz).mono ?_; rintro e w4 ⟨rfl, h4⟩; have O4 : Hid (Ph B C w4 x v3 y s n dec st2 K2 H st2 K2 H ∧ Mf w1 (prH x v y s) w4 (prH x v3 y s)) := by { obtain ⟨p1, m1⟩ := O3.out.1.goY h4; exact ⟨p1, O3.out.2.trans m1⟩ }; clear h4)
      | (go_at_call 23; refine (HX.out _ _ _ _ (HP.out.ht.below (Below.refl _ _).drew)).mono ?_; rintro e w3 ⟨rfl, v3, ht3, hm3⟩; have O3 : Hid (Ph B C w3 x v3 y s n dec st2 K2 H st K H ∧ Mf w1 (prH x v y s) w3 (prH x v3 y s)) := by { obtain ⟨p1, m1⟩ := (HP.out.below (Below.refl _ _).drew).goX ht3 hm3; exact ⟨p1, (Mf.below (Below.refl _ _).drew).trans m1⟩ }; clear ht3 hm3))
    all_goals
      go_wp2
      go_ret
      have HE : Hid (StH B C w x v y s n dec (.returned (.bool true)) _) := HFin.out _ _ _ _ _ O4.out.1 (HM0.out.trans O4.out.2)
      simpa using HE.out
  · have HPk : Hid (∀ W, Calls Try.prog 9 #[.int .i64 nn, .int .i64 400] W fun e w' => e = .returned (.int .i64 (pk14 nn 400 : Nat)) ∧ w' = W) := fun W => pick14_any nn 400 W (by omega) (by omega)
    have hp4 := pk14_lt nn (k := 400) (by omega)
    clear HSc
    generalize pk14 nn 400 = N at *
    have O0 : Hid (Ph B C w1 x v y s n dec st K H st K H ∧ Mf w1 (prH x v y s) w1 (prH x v y s)) := ⟨HP.out, Mf.refl _ _⟩
    go_wp2
    go_loopg [7] N (fun g i wx => ∃ (k : Nat) (v3 : Hv) (st3 : Nat) (K3 : List Nat), k + g = N ∧ i = .int .i64 (k : Int) ∧ Hid (Ph B C wx x v3 y s n dec st3 K3 H st3 K3 H ∧ Mf w1 (prH x v y s) wx (prH x v3 y s)))
    case atStart => exact ⟨0, _, _, _, by omega, rfl, O0⟩
    case round =>
      obtain ⟨k, v3, st3, K3, hk, rfl, O2⟩ := hrel
      clear c1 c2 O0
      have c2 := HS2.out _ _ O2.out.2
      by_cases hlt : k < N
      · have hgk : N - (k + 1) < gk := by omega
        have HKN : Hid (k + 1 + (N - (k + 1)) = N) := by show _ = _; omega
        go_wp2_with (first
          | (go_at_call 9; refine (HPk.out _).mono ?_; intro e w4 hh; rw [hh.1, hh.2]; clear hh e w4; dsimp only)
          | (have h3 := O3; clear h3; go_at_call 29; refine (rcool_any w5 O3.out.1.rz).mono ?_; rintro e w6 ⟨rfl, h6⟩; have O4 : Hid (Ph B C w6 x v3 y s n dec (colS dec st3) (colK K3 dec st3) H (colS dec st3) (colK K3 dec st3) H ∧ Mf w1 (prH x v y s) w6 (prH x v3 y s)) := by { obtain ⟨p1, m1⟩ := O3.out.1.goY h6; exact ⟨p1, O3.out.2.trans m1⟩ }; clear h6)
          | (go_at_call 24; refine (cool_any wr O2.out.1.ht).mono ?_; rintro e w5 ⟨rfl, h5⟩; have O3 : Hid (Ph B C w5 x v3 y s n dec (colS dec st3) (colK K3 dec st3) H st3 K3 H ∧ Mf w1 (prH x v y s) w5 (prH x v3 y s)) := by { obtain ⟨p1, m1⟩ := O2.out.1.goX h5.1 h5.2; exact ⟨p1, O2.out.2.trans m1⟩ }; clear h5))
        go_roundg (N - (k + 1))
        case rel => exact ⟨k + 1, _, _, _, HKN.out, by simp, O4⟩
        case measure => exact hgk
      · have hke : k = N := by omega
        have HE : Hid (StH B C w x v y s n dec (.returned (.bool true)) wr) := HFin.out _ _ _ _ _ O2.out.1 (HM0.out.trans O2.out.2)
        go_wp2_with (go_at_call 9; refine (HPk.out _).mono ?_; intro e w4 hh; rw [hh.1, hh.2]; clear hh e w4; dsimp only)
        go_ret
        exact HE.out
  · obtain ⟨t, q, H2, bx, by'⟩ := take_both (n := n) (dec := dec) (st := st) (K := K) (H := H)
    have HX : Hid (CX 20 [] n dec st K H (.tuple #[.int .i64 (t : Int), .bool q]) st K H2) := bx
    have HY : Hid (CY 30 [] n dec st K H (.tuple #[.int .i64 (t : Int), .bool q]) st K H2) := by'
    clear bx by' HSc
    go_wp2_with (first
      | (have h3 := O3; clear h3; go_at_call 30; refine (HY.out _ _ _ w3 O3.out.1.rz).mono ?_; rintro e w4 ⟨rfl, h4⟩; have O4 : Hid (Ph B C w4 x v3 y s n dec st K H2 st K H2 ∧ Mf w1 (prH x v y s) w4 (prH x v3 y s)) := by { obtain ⟨p1, m1⟩ := O3.out.1.goY h4; exact ⟨p1, O3.out.2.trans m1⟩ }; clear h4)
      | (go_at_call 20; refine (HX.out _ _ _ _ HP.out.ht).mono ?_; rintro e w3 ⟨rfl, v3, ht3, hm3⟩; have O3 : Hid (Ph B C w3 x v3 y s n dec st K H2 st K H ∧ Mf w1 (prH x v y s) w3 (prH x v3 y s)) := by { obtain ⟨p1, m1⟩ := HP.out.goX ht3 hm3; exact ⟨p1, m1⟩ }; clear ht3 hm3))
    go_ret
    have HE : Hid (StH B C w x v y s n dec (.returned (.bool true)) _) := HFin.out _ _ _ _ _ O4.out.1 (HM0.out.trans O4.out.2)
    simpa using HE.out
  · obtain ⟨r, H2, bx, by'⟩ := put_both (n := n) (dec := dec) (st := st) (K := K) (H := H) nn
    have HX : Hid (CX 21 [.int .i64 nn] n dec st K H (.int .i64 r) st K H2) := bx
    have HY : Hid (CY 31 [.int .i64 nn] n dec st K H (.int .i64 r) st K H2) := by'
    clear bx by' HSc
    go_upto_region 16 with fail
    go_region_held (fun W' => W'.cell? ⟨w.heap.size, 2, none⟩ = some (.int .i64 nn)) (first | exact HS.out _ (Below.refl _ _).drew | exact HS2.out _ _ O3.out.2 | exact HS2.out _ _ O4.out.2) (first
      | (have h3 := O3; clear h3; go_at_call 31; refine (HY.out _ _ _ w3 O3.out.1.rz).mono ?_; rintro e w4 ⟨rfl, h4⟩; have O4 : Hid (Ph B C w4 x v3 y s n dec st K H2 st K H2 ∧ Mf w1 (prH x v y s) w4 (prH x v3 y s)) := by { obtain ⟨p1, m1⟩ := O3.out.1.goY h4; exact ⟨p1, O3.out.2.trans m1⟩ }; clear h4)
      | (go_at_call 21; refine (HX.out _ _ _ _ (HP.out.ht.below (Below.refl _ _).drew)).mono ?_; rintro e w3 ⟨rfl, v3, ht3, hm3⟩; have O3 : Hid (Ph B C w3 x v3 y s n dec st K H2 st K H ∧ Mf w1 (prH x v y s) w3 (prH x v3 y s)) := by { obtain ⟨p1, m1⟩ := (HP.out.below (Below.refl _ _).drew).goX ht3 hm3; exact ⟨p1, (Mf.below (Below.refl _ _).drew).trans m1⟩ }; clear ht3 hm3))
    all_goals
      go_wp2
      go_ret
      have HE : Hid (StH B C w x v y s n dec (.returned (.bool true)) _) := HFin.out _ _ _ _ _ O4.out.1 (HM0.out.trans O4.out.2)
      simpa using HE.out
  · have HX : Hid (∀ W, Below w1.heap.size w1 W → Calls Try.prog 14 #[.pointer (some ⟨x, 0, none⟩), .int .i64 nn] W fun e w' => e = .returned (.bool (inB n H nn)) ∧ w' = W) := fun W hW => in_any nn W (HP.out.ht.below hW)
    have HY : Hid (∀ W, Below w1.heap.size w1 W → Calls Try.prog 32 #[.pointer (some ⟨y, 0, none⟩), .int .i64 nn] W fun e w' => e = .returned (.bool (inB n H nn)) ∧ w' = W) := fun W hW => rin_any nn W (HP.out.rz.below hW)
    clear HSc
    generalize inB n H nn = r at *
    go_upto_region 18 with fail
    go_region_held (fun W' => W'.cell? ⟨w.heap.size, 2, none⟩ = some (.int .i64 nn)) (first | exact HS.out _ (Below.refl _ _).drew | exact HS2.out _ _ O3.out.2 | exact HS2.out _ _ O4.out.2) (first
      | (have h3 := O3; clear h3; go_at_call 32; refine (HY.out _ (Below.refl _ _).drew).mono ?_; intro e w4 hh; rw [hh.1, hh.2]; clear hh e w4; have O4 : Hid (Ph B C w1.drew x v y s n dec st K H st K H ∧ Mf w1 (prH x v y s) w1.drew (prH x v y s)) := O3.out; dsimp only)
      | (go_at_call 14; refine (HX.out _ (Below.refl _ _).drew).mono ?_; intro e w3 hh; rw [hh.1, hh.2]; clear hh e w3; have O3 : Hid (Ph B C w1.drew x v y s n dec st K H st K H ∧ Mf w1 (prH x v y s) w1.drew (prH x v y s)) := ⟨HP.out.below (Below.refl _ _).drew, Mf.below (Below.refl _ _).drew⟩; dsimp only))
    all_goals
      go_wp2
      go_ret
      have HE : Hid (StH B C w x v y s n dec (.returned (.bool true)) _) := HFin.out _ _ _ _ _ O4.out.1 (HM0.out.trans O4.out.2)
      simpa using HE.out
  · obtain ⟨f, r, hef, bx, by'⟩ := HSc.out
    have HX : Hid (Calls Try.prog 15 #[.pointer (some ⟨x, 0, none⟩), .int .i64 nn] w1 fun e w' => e = .returned (.tuple #[.float .f64 f, .int .i64 r]) ∧ w' = w1) := bx _ _ _ _ HP.out.ht
    have HY : Hid (Calls Try.prog 33 #[.pointer (some ⟨y, 0, none⟩), .int .i64 nn] w1 fun e w' => e = .returned (.tuple #[.float .f64 f, .int .i64 r]) ∧ w' = w1) := by' _ _ _ _ HP.out.rz
    have HE : Hid (StH B C w x v y s n dec (.returned (.bool true)) w1) := HFin.out _ _ _ _ _ HP.out HM0.out
    clear bx by' HSc
    go_wp2_with (first | (go_at_call 15; refine HX.out.mono ?_; intro e w4 hh; rw [hh.1, hh.2]; clear hh e w4; dsimp only) | (go_at_call 33; refine HY.out.mono ?_; intro e w4 hh; rw [hh.1, hh.2]; clear hh e w4; dsimp only))
    go_ret
    simpa using HE.out
  · obtain ⟨L, hL, hX, hY⟩ := ord_both w1 HP.out
    have HX : Hid (Calls Try.prog 17 #[.pointer (some ⟨x, 0, none⟩)] w1 (fun e w' => ∃ u, e = .returned u ∧ Own w1.heap.size w' u L ∧ Below w1.heap.size w1 w')) := hX
    have HY : Hid (∀ W, Below w1.heap.size w1 W → Calls Try.prog 34 #[.pointer (some ⟨y, 0, none⟩)] W (fun e w' => ∃ u, e = .returned u ∧ Own W.heap.size w' u L ∧ Below W.heap.size W w')) := hY
    have HL : Hid (L.length ≤ 1048576) := hL
    clear hX hY hL HSc
    go_wp2_with fail
    refine HX.out.mono ?_
    rintro e w3 ⟨u3, rfl, own3, bel3⟩
    have O3 : Hid (Own w1.heap.size w3 u3 L ∧ Below w1.heap.size w1 w3) := ⟨own3, bel3⟩
    clear own3 bel3
    go_wp2_with fail
    refine (HY.out w3 O3.out.2).mono ?_
    rintro e w4 ⟨u4, rfl, own4, bel4⟩
    have C4 : Hid (Calls Try.prog 22 #[u3, u4] w4 fun e w' => e = .returned (.bool true) ∧ Below w4.heap.size w4 w') := sameSelf_any u3 u4 L w4 ((O3.out.1.below bel4).rd (by have := HL.out; omega)) (own4.rd (by have := HL.out; omega))
    have B4 : Hid (Below w1.heap.size w1 w4) := Below.step O3.out.2 bel4
    clear own4 bel4
    go_wp2_with fail
    refine C4.out.mono ?_
    rintro e w5 ⟨rfl, bel5⟩
    have HE : Hid (StH B C w x v y s n dec (.returned (.bool true)) w5) := HFin.out _ _ _ _ _ (HP.out.below (Below.step B4.out bel5)) (HM0.out.trans (Mf.below (Below.step B4.out bel5)))
    clear bel5
    go_wp2
    go_ret
    exact HE.out
end Go.Proofs.Ytbfjhgiifmhccaa
