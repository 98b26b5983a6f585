/-
  HeatAdds, walked.
  KEEP: set on app at below new trans refl start kept mono lt add none own nil put len pos other cell ty blt fz box k p r pr a0 a1 a2 c0 c1 c2 hb setK setP setR unique grown step fin bij up q1 q2 pl held mk v1 v2 t1 t2 hs few cut root z kl nl sl d1 d2 row down has holds stp bel heat mem srt inn inj out lays ap kind rd rds bump cool weak types foreign rows cong form heat nodup walk
-/
import Derived.Test.YtbfjhgiifmhccaaHtZ
import Derived.Test.YtbfjhgiifmhccaaHeatScales
set_option linter.unusedSimpArgs false
set_option linter.unusedVariables false
namespace Go.Proofs.Ytbfjhgiifmhccaa
open Go Go.RowKit
namespace heatAdds
set_option maxRecDepth 100000 in
theorem tbl_sum : ((List.range 41).all fun i => decide (fadd (tblS.getD (90 + i) 0) (tblS.getD 80 0) ≤ tblS.getD (91 + i) 0)) = true := by decide +kernel
set_option maxRecDepth 100000 in
theorem tbl_low : ((List.range 81).all fun j => decide (tblS.getD j 0 ≤ tblS.getD 80 0) && decide (0 < tblS.getD j 0)) = true := by decide +kernel
theorem sum_le {i : Nat} (h : i < 41) : fadd (scS (90 + i)) (scS 80) ≤ scS (91 + i) := by
  have := List.all_eq_true.1 tbl_sum i (List.mem_range.2 h)
  rw [tbl_scS _ (by omega), tbl_scS _ (by omega), tbl_scS _ (by omega)] at this
  simpa using this
theorem low_le {j : Nat} (h : j < 81) : scS j ≤ scS 80 ∧ 0 < scS j := by
  have := List.all_eq_true.1 tbl_low j (List.mem_range.2 h)
  rw [tbl_scS _ (by omega), tbl_scS _ (by omega)] at this
  simpa using this
theorem le_inf {i : Nat} (h : i < 665) : scS i ≤ infR := Nat.le_trans (scS_end h).2 (Nat.le_of_lt top_lt)
theorem bump_is {s i j : Nat} (hs : s ≤ scS (90 + i)) (hi : i < 40) (hj : j < 81) : bmpK [0, 0, s] (scS j) 2 = [0, 0, fadd s (scS j)] ∧ bmpS [0, 0, s] (scS j) 2 = scS j ∧ fadd s (scS j) ≤ scS (90 + (i + 1)) ∧ 0 < fadd s (scS j) := by
  have h1 : fadd s (scS j) ≤ scS (91 + i) := Nat.le_trans (add_mono hs (low_le hj).1 (le_inf (by omega)) (le_inf (by omega))) (sum_le (by omega))
  have h2 : ¬ top < fadd s (scS j) := Nat.not_lt.2 (Nat.le_trans h1 (scS_end (by omega)).2)
  have h3 : 0 < fadd s (scS j) := by
    have := add_mono (Nat.zero_le s) (Nat.le_refl (scS j)) (Nat.le_trans hs (le_inf (by omega))) (le_inf (by omega))
    rw [(scS_end (by omega)).1] at this
    have := (low_le hj).2
    omega
  refine ⟨?_, ?_, by rw [show 90 + (i + 1) = 91 + i by omega]; exact h1, h3⟩
  · unfold bmpK
    have e : gt [0, 0, s] 2 = s := rfl
    rw [e, if_neg h2]; rfl
  · unfold bmpS
    have e : gt [0, 0, s] 2 = s := rfl
    rw [e, if_neg h2]
theorem cool_is {s j : Nat} (hj : j < 100) : colK [0, 0, s] hlfF (scS j) = [0, 0, s] ∧ colS hlfF (scS j) = scS (j + 1) ∧ fdiv (scS j) hlfF = scS (j + 1) := by
  have h := (scS_ok (i := j) (by omega)).1
  have hn : ¬ top < fdiv (scS j) hlfF := fun e => by have := h.1 e; omega
  refine ⟨by unfold colK; rw [if_neg hn], rfl, ?_⟩
  show _ = colS hlfF (scS j)
  unfold colS; rw [if_neg hn]
theorem ord_two {s : Nat} (hs : 0 < s) {S : List Nat} (h : IsOrd (gt [0, 0, s]) (fun _ => true) 2 S) : S = [2, 1] := by
  refine h.unique ⟨fun v => ?_, ?_⟩
  · simp; omega
  · simp [ahd, gt]; exact hs
theorem neq_self {x : Nat} (h : x ≤ infR) : (FloatKind.f64.format.order x x != some .eq) = false := by
  show (Ieee.double.order x x != some .eq) = false
  rw [ord_word h h, Nat.compare_eq_eq.2 rfl]; rfl
/-- the Heat behind i rounds -/
def AdS (w wx : World) (b j s : Nat) : Prop := ∃ v, Ht w.heap.size wx b v 2 hlfF (scS j) [0, 0, s] (fun _ => true) ∧ Below w.heap.size w wx
theorem AdS.bump {w wx : World} {b i j s : Nat} (h : AdS w wx b j s) (hs : s ≤ scS (90 + i)) (hi : i < 40) (hj : j < 81) :
    Calls Try.prog 23 #[.pointer (some ⟨b, 0, none⟩), .int .i64 2] wx fun e w' => e = .returned (.int .i64 0) ∧ AdS w w' b j (fadd s (scS j)) := by
  obtain ⟨v, h1, h2⟩ := h
  obtain ⟨e1, e2, _, _⟩ := bump_is hs hi hj
  have := bump_yes 2 wx h1 (by omega) (by omega)
  rw [e1, e2] at this
  exact this.mono fun e w' hh => ⟨hh.1, v, hh.2.1, Mf.bel h2 (fun k hk => (h1.lt k hk).1) hh.2.2⟩
theorem AdS.cool {w wx : World} {b j s : Nat} (h : AdS w wx b j s) (hj : j < 100) :
    Calls Try.prog 24 #[.pointer (some ⟨b, 0, none⟩)] wx fun e w' => e = .returned (.tuple #[]) ∧ AdS w w' b (j + 1) s := by
  obtain ⟨v, h1, h2⟩ := h
  have := cool_any wx h1
  rw [(cool_is hj).1, (cool_is (s := s) hj).2.1] at this
  exact this.mono fun e w' hh => ⟨hh.1, v, hh.2.1, Mf.bel h2 (fun k hk => (h1.lt k hk).1) hh.2.2⟩
theorem AdS.score {w wx : World} {b j s : Nat} (h : AdS w wx b j s) :
    Calls Try.prog 15 #[.pointer (some ⟨b, 0, none⟩), .int .i64 2] wx (fun e w' => e = .returned (.tuple #[.float .f64 s, .int .i64 0]) ∧ w' = wx) ∧ Calls Try.prog 15 #[.pointer (some ⟨b, 0, none⟩), .int .i64 1] wx (fun e w' => e = .returned (.tuple #[.float .f64 0, .int .i64 0]) ∧ w' = wx) := by
  obtain ⟨v, h1, h2⟩ := h
  exact ⟨score_yes 2 wx h1 (by omega) (by omega), score_yes 1 wx h1 (by omega) (by omega)⟩
set_option maxRecDepth 100000 in
set_option maxHeartbeats 4000000 in
theorem walk (vz : Value) (zs : List Int) (w : World) (hr : Rd w vz zs) :
    Calls Try.prog 6 #[vz] w fun e w' => e = .returned (.bool true) ∧ Below w.heap.size w w' := by
  have HN1 : Hid (Calls Try.prog 10 #[.int .i64 2, .float .f64 4602678819172646912] w fun e w' => NewS w 2 4602678819172646912 e w') := new_yes 2 4602678819172646912 w (by omega) (by omega) (by decide +kernel)
  have hl := hr.len
  obtain ⟨az, cz, rfl, hc1, hc2, hcell⟩ := hr.form
  have HC : Hid (∀ k, k < zs.length → ∃ b off, az = some ⟨b, off, none⟩ ∧ b < w.heap.size ∧ w.cell? ⟨b, off + k, none⟩ = some (.int .i64 (zs.getD k 0))) := fun k hk => by
    obtain ⟨b, off, e, hcc⟩ := hcell k hk
    exact ⟨b, off, e, World.block_lt_of_cell? w _ hcc, hcc⟩
  have HPk : Hid (∀ (x : Int) W, Calls Try.prog 9 #[.int .i64 x, .int .i64 3] W fun e w' => e = .returned (.int .i64 (pk14 x 3 : Nat)) ∧ w' = W) := fun x W => pick14_any x 3 W (by omega) (by omega)
  obtain ⟨NZ, hNZ⟩ : ∃ N : Nat, zs.length = N := ⟨_, rfl⟩
  rw [hNZ] at hl hc1 HC ⊢
  clear hcell hr hNZ
  go_enter Try.func6, Try.ntmps6
  go_wp2_with (go_at_call 10; refine HN1.out.mono ?_; rintro e w1 ⟨b, v, rfl, ht, hb⟩; have HA0 : Hid (AdS w w1 b 0 0) := ⟨v, ht, hb⟩; clear ht hb)
  clear HN1
  go_loopg [5, 6, 7] 40 (fun g x y z wx => ∃ i j s : Nat, i + g = 40 ∧ i ≤ NZ ∧ j ≤ 2 * i ∧ x = .float .f64 s ∧ y = .float .f64 (scS j) ∧ z = .int .i64 (i : Int) ∧ Hid (s ≤ scS (90 + i) ∧ (0 < i → 0 < s)) ∧ Hid (AdS w wx b j s))
  case atStart => exact ⟨0, 0, 0, rfl, Nat.zero_le _, Nat.le_refl _, rfl, rfl, rfl, ⟨Nat.zero_le _, fun h => absurd h (Nat.lt_irrefl _)⟩, HA0⟩
  case round =>
    obtain ⟨i, j, s, hi, hiN, hj, rfl, rfl, rfl, HS, H1⟩ := hrel
    clear HA0
    by_cases hlt : i < NZ ∧ i < 40
    · obtain ⟨bz, off, rfl, hbz, hcc⟩ := HC.out i hlt.1
      obtain ⟨_, _, u3, u4⟩ := bump_is HS.out.1 hlt.2 (j := j) (by omega)
      have hadd : ∀ W, (binOp .add 23 (.float .f64 s) (.float .f64 (scS j))).run Try.prog W = .ok (.float .f64 (fadd s (scS j))) W := fun W => run_float_arith W .add _ .f64 _ _ _ (add_ok (Nat.le_trans HS.out.1 (le_inf (by omega))) (le_inf (by omega))).1
      have hinf : fadd s (scS j) ≤ infR := Nat.le_trans u3 (le_inf (by omega))
      have hnn := neq_self hinf
      have hzz : (FloatKind.f64.format.order 0 0 != some .eq) = false := by decide +kernel
      have HBu : Hid (Calls Try.prog 23 #[.pointer (some ⟨b, 0, none⟩), .int .i64 2] wr fun e w' => e = .returned (.int .i64 0) ∧ AdS w w' b j (fadd s (scS j))) := H1.out.bump HS.out.1 hlt.2 (by omega)
      have HS2 : Hid (fadd s (scS j) ≤ scS (90 + (i + 1)) ∧ (0 < i + 1 → 0 < fadd s (scS j))) := ⟨u3, fun _ => u4⟩
      have HCz : Hid (∀ W, Below w.heap.size w W → W.cell? ⟨bz, off + i, none⟩ = some (.int .i64 (zs.getD i 0))) := fun W hW => (hW.cell (p := ⟨bz, off + i, none⟩) hbz).trans hcc
      have HSc : Hid (∀ W s', AdS w W b j s' → Calls Try.prog 15 #[.pointer (some ⟨b, 0, none⟩), .int .i64 2] W (fun e w' => e = .returned (.tuple #[.float .f64 s', .int .i64 0]) ∧ w' = W) ∧ Calls Try.prog 15 #[.pointer (some ⟨b, 0, none⟩), .int .i64 1] W (fun e w' => e = .returned (.tuple #[.float .f64 0, .int .i64 0]) ∧ w' = W)) := fun W s' h => h.score
      have hP3 := pk14_lt (zs.getD i 0) (k := 3) (by omega)
      have HPi : Hid (∀ W, Calls Try.prog 9 #[.int .i64 (zs.getD i 0), .int .i64 3] W fun e w' => e = .returned (.int .i64 (pk14 (zs.getD i 0) 3 : Nat)) ∧ w' = W) := fun W => HPk.out _ W
      generalize pk14 (zs.getD i 0) 3 = M at *
      generalize zs.getD i 0 = zi at *
      have hgk : 40 - (i + 1) < gk := by omega
      have HKN : Hid (i + 1 + (40 - (i + 1)) = 40) := by show _ = _; omega
      have hi1 : i + 1 ≤ NZ := by omega
      have hiN' : i < NZ := hlt.1
      have hi40 : i < 40 := hlt.2
      have HJ : Hid (j ≤ 2 * i) := hj
      clear hlt hiN hi u3 u4 hinf hcc H1 HS HC HPk hj
      generalize fadd s (scS j) = x2 at *
      go_wp2_with (first | (go_at_call 23; refine HBu.out.mono ?_; rintro e w2 ⟨rfl, h2⟩; have H2 : Hid (AdS w w2 b j x2) := h2; clear h2) | (go_at_call 15; with_reducible refine Calls.mono (HSc.out _ _ H2.out).1 ?_; rintro e w' ⟨rfl, hw'⟩; have hw'' := hw'.symm; clear hw'; subst hw'') | (go_at_call 15; with_reducible refine Calls.mono (HSc.out _ _ H2.out).2 ?_; rintro e w' ⟨rfl, hw'⟩; have hw'' := hw'.symm; clear hw'; subst hw''))
      go_loopg [6, 12] M (fun q y z wx => ∃ k jk : Nat, k + q = M ∧ jk = j + k ∧ y = .float .f64 (scS jk) ∧ z = .int .i64 (k : Int) ∧ Hid (AdS w wx b jk x2))
      case atStart => exact ⟨0, j, by omega, rfl, rfl, rfl, H2⟩
      case round =>
        obtain ⟨k, jk, hk, hjk, rfl, rfl, H3⟩ := hrel
        have HJK : Hid (jk = j + k) := hjk
        have ck := HCz.out _ (by obtain ⟨_, _, h⟩ := H3.out; exact h)
        clear H2 HBu
        by_cases hkM : k < M
        · have hj100 : jk < 100 := by have := HJ.out; omega
          have HCo : Hid (Calls Try.prog 24 #[.pointer (some ⟨b, 0, none⟩)] wr fun e w' => e = .returned (.tuple #[]) ∧ AdS w w' b (jk + 1) x2) := H3.out.cool hj100
          have hmul : ∀ W, (binOp .mul 23 (.float .f64 (scS jk)) (.float .f64 4611686018427387904)).run Try.prog W = .ok (.float .f64 (scS (jk + 1))) W := fun W => run_float_arith W .mul _ .f64 _ _ _ (by
            have := (scS_ok (i := jk) (by omega)).2
            rw [(cool_is (s := 0) hj100).2.2] at this
            exact this)
          have hgi : M - (k + 1) < gk := by omega
          have HKM : Hid (k + 1 + (M - (k + 1)) = M) := by show _ = _; omega
          clear H3 hk hjk
          obtain ⟨y2, hy2⟩ : ∃ y, scS (jk + 1) = y := ⟨_, rfl⟩
          rw [hy2] at hmul
          have HY2 : Hid (scS (jk + 1) = y2) := hy2
          clear hy2
          generalize scS jk = y1 at *
          go_wp2_with (first | (go_at_call 9; refine (HPi.out _).mono ?_; rintro e w' ⟨rfl, hw'⟩; have hw'' := hw'.symm; clear hw'; subst hw'') | (go_at_call 24; refine HCo.out.mono ?_; rintro e w4 ⟨rfl, h4⟩; have H4 : Hid (AdS w w4 b (jk + 1) x2) := h4; clear h4))
          go_roundg (M - (k + 1))
          case rel => exact ⟨k + 1, jk + 1, HKM.out, by have := HJK.out; omega, by rw [HY2.out], by simp, H4⟩
          case measure => exact hgi
        · have hkn : ¬ ((k : Int) < (M : Int)) := by omega
          have hkn2 : ¬ k < M := hkM
          have HJ2 : Hid (jk ≤ 2 * (i + 1)) := by show _ ≤ _; have := HJ.out; have := HJK.out; omega
          clear hk hjk
          go_wp2_with (go_at_call 9; refine (HPi.out _).mono ?_; rintro e w' ⟨rfl, hw'⟩; have hw'' := hw'.symm; clear hw'; subst hw'')
          go_roundg (40 - (i + 1))
          case rel => exact ⟨i + 1, jk, x2, HKN.out, hi1, HJ2.out, rfl, rfl, by simp, HS2, H3⟩
          case measure => exact hgk
    · have HO : Hid (Calls Try.prog 17 #[.pointer (some ⟨b, 0, none⟩)] wr fun e w' => ∃ a c x0, e = .returned (.slice a 2 c) ∧ (∃ g, a = some ⟨g, 0, none⟩ ∧ 2 ≤ c ∧ c ≤ maxLen ∧ w'.cell? ⟨g, 0, none⟩ = some (.int .i64 x0)) ∧ (NZ = 0 ∨ x0 = 2) ∧ Below w.heap.size w w') := by
        obtain ⟨v, h1, h2⟩ := H1.out
        refine (order_any wr h1).mono fun e w' ⟨S, u, he, ho, hw, hb⟩ => ?_
        have hSl : S.length = 2 := by
          have := len_cnH 2 S ho.nodup ho.mem
          simpa [cnH] using this
        have hl2 : (S.map fun (x : Nat) => (x : Int)).length = 2 := by simp [hSl]
        obtain ⟨g, c, e2, k1, k2, k3⟩ := row_some hw (by omega)
        rw [hl2] at e2 k1
        subst e2
        have hw2 := hw
        unfold Own at hw2
        rw [hl2] at hw2
        refine ⟨_, c, (gt S 0 : Nat), he, ⟨g, rfl, k1, k2, row_cell hw2 (by rw [List.map_map, List.getElem?_map, gt_at (by omega)]; rfl)⟩, ?_, Below.step h2 hb⟩
        by_cases hz : NZ = 0
        · exact .inl hz
        · refine .inr ?_
          rw [ord_two (HS.out.2 (by omega)) ho]; rfl
      have hcond : (i < NZ → 40 ≤ i) := fun h => by omega
      clear H1 HS HC HPk
      by_cases hz : NZ = 0
      · subst hz
        have hi0 : i = 0 := by omega
        subst hi0
        go_wp2_with (go_at_call 17; refine HO.out.mono ?_; rintro e w5 ⟨a, c, x0, rfl, ⟨g, rfl, g1, g2, g3⟩, _, h5⟩; have H5 : Hid (Below w.heap.size w w5) := h5; clear h5)
        go_ret
        exact ⟨rfl, H5.out⟩
      · have hzb : ((NZ : Int) == 0) = false := by simpa using hz
        by_cases hin : i < NZ
        · have hi40 : ¬ i < 40 := by omega
          have hi40' : ¬ ((i : Int) < 40) := by omega
          clear hlt hcond
          go_wp2_with (go_at_call 17; refine HO.out.mono ?_; rintro e w5 ⟨a, c, x0, rfl, ⟨g, rfl, g1, g2, g3⟩, hx, h5⟩; have H5 : Hid (Below w.heap.size w w5) := h5; have hx2 := hx.resolve_left hz; subst hx2; clear h5 hx)
          go_ret
          exact ⟨rfl, H5.out⟩
        · clear hlt hcond
          go_wp2_with (go_at_call 17; refine HO.out.mono ?_; rintro e w5 ⟨a, c, x0, rfl, ⟨g, rfl, g1, g2, g3⟩, hx, h5⟩; have H5 : Hid (Below w.heap.size w w5) := h5; have hx2 := hx.resolve_left hz; subst hx2; clear h5 hx)
          go_ret
          exact ⟨rfl, H5.out⟩
end heatAdds
end Go.Proofs.Ytbfjhgiifmhccaa
