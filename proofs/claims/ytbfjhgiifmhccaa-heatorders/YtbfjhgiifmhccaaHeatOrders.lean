/-
  HeatOrders, walked (the stage's theorem).
  KEEP: set on app at below new trans refl start kept mono lt add none own nil put len pos other cell ty blt fz box k p r pr a0 a1 a2 c0 c1 c2 hb setK setP setR unique grown step fin bij up q1 q2 pl held mk v1 v2 t1 t2 hs few cut root z kl nl sl d1 d2 row down has holds stp bel heat mem srt inn inj out lays ap kind rd rds bump cool weak types foreign rows cong form heat nodup walk
-/
import Derived.Test.YtbfjhgiifmhccaaHtZ
set_option linter.unusedSimpArgs false
set_option linter.unusedVariables false
namespace Go.Proofs.Ytbfjhgiifmhccaa
open Go Go.RowKit
theorem OS.at {w0 wx : World} {b n dec st L c i : Nat} {K S : List Nat} {H : Nat → Bool} {a : Option Addr} (h : OS w0 wx b n dec st K H (.slice a L c) S) (hi : i < S.length) : ∃ g, a = some ⟨g, 0, none⟩ ∧ L = S.length ∧ L ≤ c ∧ c ≤ maxLen ∧ ∀ j, j < S.length → wx.cell? ⟨g, j, none⟩ = some (.int .i64 (gt S j : Nat)) := by
  obtain ⟨v, h1, h2, h3⟩ := h
  have hl : (S.map fun (x : Nat) => (x : Int)).length = S.length := by simp
  obtain ⟨g, cap, e, k1, k2, k3⟩ := row_some h2 (by omega)
  injection e with e1 e2 e3
  subst e1; subst e3
  have hL : L = S.length := by omega
  refine ⟨g, rfl, hL, by omega, by omega, fun j hj => ?_⟩
  have h2' := h2
  unfold Own at h2'
  rw [hl, hL] at h2'
  refine row_cell h2' ?_
  rw [List.map_map, List.getElem?_map, gt_at hj]
  rfl
theorem leF_zero {s : Nat} (h : s ≤ infR) : leF 0 s = true := by
  unfold leF
  show (Ieee.double.order 0 s == some .lt || Ieee.double.order 0 s == some .eq) = true
  rw [ord_word (Nat.zero_le _) h]
  rcases Nat.lt_or_eq_of_le (Nat.zero_le s) with e | e
  · rw [Nat.compare_eq_lt.2 e]; rfl
  · subst e; rw [Nat.compare_eq_eq.2 rfl]; rfl
theorem leF_top {s : Nat} (h : s ≤ top) : leF s top = true := by
  unfold leF
  show (Ieee.double.order s top == some .lt || Ieee.double.order s top == some .eq) = true
  rw [ord_word (Nat.le_trans h (Nat.le_of_lt top_lt)) (Nat.le_of_lt top_lt)]
  rcases Nat.lt_or_eq_of_le h with e | e
  · rw [Nat.compare_eq_lt.2 e]; rfl
  · subst e; rw [Nat.compare_eq_eq.2 rfl]; rfl
theorem ord_has {κ : Nat → Nat} {H : Nat → Bool} {n : Nat} {S : List Nat} (h : IsOrd κ H n S) {x : Nat} (h1 : 1 ≤ x) (h2 : x ≤ n) : (S.map fun (x : Nat) => (x : Int)).contains (x : Int) = H x := by
  rw [Bool.eq_iff_iff, List.contains_iff_mem, List.mem_map]
  constructor
  · rintro ⟨y, hy, e⟩
    have : y = x := by omega
    subst this
    exact ((h.mem y).1 hy).2.2
  · intro hh; exact ⟨x, (h.mem x).2 ⟨h1, h2, hh⟩, rfl⟩
namespace heatOrders
set_option maxRecDepth 100000 in
set_option maxHeartbeats 6000000 in
theorem walk (n0 : Int) (d : Nat) (vo : Value) (ops : List HOp) (w : World) (hd : d < 18446744073709551616) (hr : RdH w vo ops) :
    Calls Try.prog 5 #[.agg #[.int .i64 n0, .float .f64 d, vo]] w fun e w' => e = .returned (.bool true) ∧ Below w.heap.size w w' := by
  have hb0 := below_box w (.cells #[.int .i64 n0, .float .f64 d, vo] 48)
  have hbx := World.alloc_heap_new w (.cells #[.int .i64 n0, .float .f64 d, vo] 48)
  have hsz : w.heap.size < (w.alloc (.cells #[.int .i64 n0, .float .f64 d, vo] 48)).heap.size := by rw [World.size_alloc]; omega
  have HRun0 := run_any n0 d vo ops (w.alloc (.cells #[.int .i64 n0, .float .f64 d, vo] 48)) hd (hr.below hb0)
  have HX : Hid (∀ W, Below (w.alloc (.cells #[.int .i64 n0, .float .f64 d, vo] 48)).heap.size (w.alloc (.cells #[.int .i64 n0, .float .f64 d, vo] 48)) W → W.cell? ⟨w.heap.size, 0, none⟩ = some (.int .i64 n0) ∧ W.cell? ⟨w.heap.size, 1, none⟩ = some (.float .f64 d) ∧ W.cell? ⟨w.heap.size, 2, none⟩ = some vo) := fun W hW => by
    have e : W.heap[w.heap.size]? = some (.cells #[.int .i64 n0, .float .f64 d, vo] 48 (0, 0)) := (hW.block _ hsz).trans hbx
    exact ⟨by simp [World.cell?, e], by simp [World.cell?, e], by simp [World.cell?, e]⟩
  have HPk : Hid (∀ W, Calls Try.prog 9 #[.int .i64 n0, .int .i64 61] W fun e w' => e = .returned (.int .i64 (pk14 n0 61 : Nat)) ∧ w' = W) := fun W => pick14_any n0 61 W (by omega) (by omega)
  have hn61 := pk14_lt n0 (k := 61) (by omega)
  obtain ⟨n, hn⟩ : ∃ n, pk14 n0 61 = n := ⟨_, rfl⟩
  rw [hn] at HRun0 HPk hn61
  clear hn
  have HRun : Hid (Calls Try.prog 16 #[.int .i64 n0, .float .f64 d, vo, .slice none 0 0] (w.alloc (.cells #[.int .i64 n0, .float .f64 d, vo] 48)) fun e w' => ∃ b u dec, e = .returned (.tuple #[.pointer (some ⟨b, 0, none⟩), u]) ∧ RunS (w.alloc (.cells #[.int .i64 n0, .float .f64 d, vo] 48)) w' b n dec u ops.length) := HRun0
  obtain ⟨x0, x1, x2⟩ := HX.out _ (Below.refl _ _)
  obtain ⟨ao, co, eo, hrr⟩ := hr
  clear hrr
  have HB0 : Hid (Below w.heap.size w (w.alloc (.cells #[.int .i64 n0, .float .f64 d, vo] 48))) := hb0
  clear HRun0 hb0 hbx
  subst eo
  obtain ⟨NO, hNO⟩ : ∃ N : Nat, ops.length = N := ⟨_, rfl⟩
  rw [hNO] at HRun HX x0 x1 x2 HB0 hsz ⊢
  clear hNO
  go_enter Try.func5, Try.ntmps5
  go_upto_region 1 with fail
  generalize w.alloc (.cells #[.int .i64 n0, .float .f64 d, .slice ao NO co] 48) = w0 at *
  go_upto_region 2 with (go_at_call 16; refine HRun.out.mono ?_; rintro e w1 ⟨b, u0, dec, rfl, hrs⟩; have HRS : Hid (RunS w0 w1 b n dec u0 NO) := hrs; clear hrs)
  obtain ⟨y0, y1, y2⟩ := HX.out w1 HRS.out.bel
  obtain ⟨v, st, K, H, L, ht, hbd, _, _, _, hk0, hbel1⟩ := HRS.out
  have HT : Hid (Ht w0.heap.size w1 b v n dec st K H) := ht
  have HBd : Hid (Bnd K st) := hbd
  have HB1 : Hid (Below w0.heap.size w0 w1) := hbel1
  have HK0 : Hid (NO = 0 → H = fun _ => true) := hk0
  clear ht hbd hbel1 hk0 HRS HRun x0 x1 x2
  have HIn1 : Hid (Calls Try.prog 14 #[.pointer (some ⟨b, 0, none⟩), .int .i64 1] w1 fun e w' => e = .returned (.bool (inB n H 1)) ∧ w' = w1) := in_any 1 w1 HT.out
  go_cut [46] from 28 to 46 (fun q wx => q = .bool false ∧ wx = w1)
  case first =>
    cases hin : inB n H 1
    · rw [hin] at HIn1
      by_cases hn0 : n = 0
      · subst hn0
        go_wp2_with (first | (go_at_call 14; refine HIn1.out.mono ?_; rintro e w' ⟨rfl, hw'⟩; have hw'' := hw'.symm; clear hw'; subst hw'') | (go_at_call 9; refine (HPk.out _).mono ?_; rintro e w' ⟨rfl, hw'⟩; have hw'' := hw'.symm; clear hw'; subst hw''))
        go_meet
        exact ⟨rfl, rfl⟩
      · have hNO : NO ≠ 0 := fun e => by
          have := HK0.out e
          rw [this] at hin
          unfold inB at hin
          rw [decide_eq_true (by omega)] at hin
          simp at hin
        have hnp : (0 : Int) < (n : Int) := by omega
        have hNOb : ((NO : Int) == 0) = false := by simpa using hNO
        clear hin hNO
        go_wp2_with (first | (go_at_call 14; refine HIn1.out.mono ?_; rintro e w' ⟨rfl, hw'⟩; have hw'' := hw'.symm; clear hw'; subst hw'') | (go_at_call 9; refine (HPk.out _).mono ?_; rintro e w' ⟨rfl, hw'⟩; have hw'' := hw'.symm; clear hw'; subst hw''))
        go_meet
        exact ⟨rfl, rfl⟩
    · rw [hin] at HIn1
      clear hin
      go_wp2_with (first | (go_at_call 14; refine HIn1.out.mono ?_; rintro e w' ⟨rfl, hw'⟩; have hw'' := hw'.symm; clear hw'; subst hw'') | (go_at_call 9; refine (HPk.out _).mono ?_; rintro e w' ⟨rfl, hw'⟩; have hw'' := hw'.symm; clear hw'; subst hw''))
      go_meet
      exact ⟨rfl, rfl⟩
  case rest =>
  obtain ⟨rfl, hwc⟩ := hcut
  have hwc' := hwc.symm
  clear hwc
  subst hwc'
  clear HIn1 HK0
  have HOr : Hid (Calls Try.prog 17 #[.pointer (some ⟨b, 0, none⟩)] w1 fun e w' => OrdS w1 n (gt K) H e w') := order_any w1 HT.out
  go_upto_region 6 with (first | (go_at_call 9; refine (HPk.out _).mono ?_; rintro e w' ⟨rfl, hw'⟩; have hw'' := hw'.symm; clear hw'; subst hw'') | (go_at_call 17; refine HOr.out.mono ?_; rintro e w2 ⟨S, uo, rfl, ho, hw, hb2⟩; have HO : Hid (IsOrd (gt K) H n S) := ho; obtain ⟨a, c, hu⟩ := own_form hw; have hll : (S.map fun (x : Nat) => (x : Int)).length = S.length := (by simp); rw [hll] at hu; subst hu; have HOS : Hid (OS w0 w2 b n dec st K H (.slice a S.length c) S) := ⟨v, HT.out.below hb2, hw.mono HB1.out.size, Below.step HB1.out hb2⟩; clear ho hw hb2 hll))
  clear HOr HT HPk y0 y1 y2 HX HB1
  have HL : Hid (S.length = cnH H n) := len_cnH n S HO.out.nodup HO.out.mem
  have hSn : S.length ≤ 60 := by have := ord_few HO.out; omega
  have HRd : Hid (Rd w2 (.slice a S.length c) (S.map fun (x : Nat) => (x : Int))) := by
    obtain ⟨v', h1, h2, h3⟩ := HOS.out
    exact h2.rd (by simp; omega)
  obtain ⟨LN, hLN⟩ : ∃ LN, S.length = LN := ⟨_, rfl⟩
  have HLN : Hid (S.length = LN) := hLN
  rw [hLN] at hSn HL HRd HOS
  rw [hLN]
  clear hLN
  go_wp2
  go_loopg [7, 8] n (fun g x y wx => ∃ m : Nat, m + g = n ∧ x = .int .i64 (cnH H m : Nat) ∧ y = .int .i64 ((m + 1 : Nat) : Int) ∧ wx = w2)
  case atStart => exact ⟨0, by omega, rfl, rfl, rfl⟩
  case round =>
    obtain ⟨m, hm, rfl, rfl, hwr⟩ := hrel
    have hwr' := hwr.symm
    clear hwr
    subst hwr'
    have hcm := cnH_le H m
    by_cases hlt : m < n
    · obtain ⟨v', h1, h2, h3⟩ := HOS.out
      have HSc : Hid (Calls Try.prog 15 #[.pointer (some ⟨b, 0, none⟩), .int .i64 ((m + 1 : Nat) : Int)] w2 fun e w' => e = .returned (.tuple #[.float .f64 (gt K (m + 1)), .int .i64 0]) ∧ w' = w2) := score_yes (m + 1) w2 h1 (by omega) (by omega)
      have HIn : Hid (Calls Try.prog 14 #[.pointer (some ⟨b, 0, none⟩), .int .i64 ((m + 1 : Nat) : Int)] w2 fun e w' => e = .returned (.bool (H (m + 1))) ∧ w' = w2) := in_is h1 _ _ (by unfold inB; rw [decide_eq_true (by omega), Int.toNat_natCast]; rfl)
      have HHa : Hid (Calls Try.prog 18 #[.slice a LN c, .int .i64 ((m + 1 : Nat) : Int)] w2 fun e w' => e = .returned (.bool (H (m + 1))) ∧ w' = w2) := by
        have := hasInt14_any _ _ ((m + 1 : Nat) : Int) w2 HRd.out
        rw [ord_has HO.out (x := m + 1) (by omega) (by omega)] at this
        exact this
      have hge := ge_swap14 (gt K (m + 1)) 0
      rw [leF_zero (h1.fin _)] at hge
      have hle : (FloatKind.f64.format.order (gt K (m + 1)) 6103021453049119613 == some .lt || FloatKind.f64.format.order (gt K (m + 1)) 6103021453049119613 == some .eq) = true := leF_top (HBd.out.1 (m + 1))
      have HCn : Hid (cnH H (m + 1) = cnH H m + (if H (m + 1) = true then 1 else 0)) := rfl
      clear h1 h2 h3
      have hgk : n - (m + 1) < gk := by omega
      have HKN : Hid (m + 1 + (n - (m + 1)) = n) := by show _ = _; omega
      obtain ⟨m1, hm1⟩ : ∃ m1, m + 1 = m1 := ⟨_, rfl⟩
      rw [hm1] at HSc HIn HHa hge hle HCn ⊢
      have hm1n : m1 ≤ n := by omega
      have HM1 : Hid (m + 1 = m1) := hm1
      clear hm1 hm hlt
      generalize gt K m1 = s at *
      cases hq : H m1
      · rw [hq] at HIn HHa HCn
        clear hq
        go_wp2_with (first | (go_at_call 15; refine HSc.out.mono ?_; rintro e w' ⟨rfl, hw'⟩; have hw'' := hw'.symm; clear hw'; subst hw'') | (go_at_call 14; refine HIn.out.mono ?_; rintro e w' ⟨rfl, hw'⟩; have hw'' := hw'.symm; clear hw'; subst hw'') | (go_at_call 18; refine HHa.out.mono ?_; rintro e w' ⟨rfl, hw'⟩; have hw'' := hw'.symm; clear hw'; subst hw''))
        go_roundg (n - (m + 1))
        case rel => exact ⟨m + 1, HKN.out, by rw [HM1.out, HCn.out]; rfl, by rw [HM1.out]; simp, rfl⟩
        case measure => exact hgk
      · rw [hq] at HIn HHa HCn
        clear hq
        go_wp2_with (first | (go_at_call 15; refine HSc.out.mono ?_; rintro e w' ⟨rfl, hw'⟩; have hw'' := hw'.symm; clear hw'; subst hw'') | (go_at_call 14; refine HIn.out.mono ?_; rintro e w' ⟨rfl, hw'⟩; have hw'' := hw'.symm; clear hw'; subst hw'') | (go_at_call 18; refine HHa.out.mono ?_; rintro e w' ⟨rfl, hw'⟩; have hw'' := hw'.symm; clear hw'; subst hw''))
        go_roundg (n - (m + 1))
        case rel => exact ⟨m + 1, HKN.out, by rw [HM1.out, HCn.out]; simp; unfold wrap64; have := HM1.out; omega, by rw [HM1.out]; simp, rfl⟩
        case measure => exact hgk
    · have hme : m = n := by omega
      subst hme
      have hcl : cnH H m = LN := HL.out.symm
      rw [hcl]
      clear hcl HL hm hlt hcm HRd
      go_wp2
      go_loopg [11] LN (fun g x wx => ∃ i : Nat, i + g = LN ∧ x = .int .i64 (i : Int) ∧ Hid (OS w0 wx b m dec st K H (.slice a LN c) S))
      case atStart => exact ⟨0, by omega, rfl, HOS⟩
      case round =>
        obtain ⟨i, hi, rfl, H1⟩ := hrel
        clear HOS
        by_cases hlt : i < LN
        · obtain ⟨g, hga, hLS, hLc, hcm, hcells⟩ := H1.out.at (i := i) (by rw [HLN.out]; exact hlt)
          clear hLS
          have xi := hcells i (by rw [HLN.out]; exact hlt)
          have hgk : LN - (i + 1) < gk := by omega
          have HKN : Hid (i + 1 + (LN - (i + 1)) = LN) := by show _ = _; omega
          have HOn : Hid (∀ k, OS w0 (wr.drewN k) b m dec st K H (.slice a LN c) S) := fun k => by
            obtain ⟨v', h1, h2, h3⟩ := H1.out
            exact ⟨v', h1.below (below_drewN _ _), h2.below (below_drewN _ _), Below.step h3 (below_drewN _ _)⟩
          have HGA : Hid (a = some ⟨g, 0, none⟩) := hga
          by_cases hi0 : i = 0
          · subst hi0
            subst hga
            clear hi hcells
            go_upto_region 20 with fail
            go_quiet (fail)
            have HN2 : Hid (OS w0 (wr.drewN nq) b m dec st K H (.slice (some ⟨g, 0, none⟩) LN c) S) := HOn.out nq
            generalize wr.drewN nq = w5 at *
            go_wp2
            go_roundg (LN - (0 + 1))
            case rel => exact ⟨0 + 1, HKN.out, by simp, HN2⟩
            case measure => exact hgk
          · obtain ⟨j, rfl⟩ : ∃ j, i = j + 1 := ⟨i - 1, by omega⟩
            have xj := hcells j (by rw [HLN.out]; omega)
            obtain ⟨v', h1, h2, h3⟩ := H1.out
            have mi := (HO.out.mem (gt S (j + 1))).1 (gt_mem (by rw [HLN.out]; exact hlt))
            have mj := (HO.out.mem (gt S j)).1 (gt_mem (by rw [HLN.out]; omega))
            have hah : ahd (gt K) (gt S j) (gt S (j + 1)) = true := by
              have := List.pairwise_iff_getElem.1 HO.out.srt j (j + 1) (by rw [HLN.out]; omega) (by rw [HLN.out]; exact hlt) (by omega)
              unfold gt
              rw [List.getD_eq_getElem?_getD, List.getD_eq_getElem?_getD, List.getElem?_eq_getElem (by rw [HLN.out]; omega), List.getElem?_eq_getElem (by rw [HLN.out]; exact hlt)]
              exact this
            have HAh : Hid (∀ k, Calls Try.prog 19 #[.pointer (some ⟨b, 0, none⟩), .int .i64 (gt S j : Nat), .int .i64 (gt S (j + 1) : Nat)] (wr.drewN k) fun e w' => e = .returned (.bool true) ∧ w' = wr.drewN k) := fun k => ahdL_any _ _ (h1.below (below_drewN _ _)) ⟨mj.1, mj.2.1⟩ ⟨mi.1, mi.2.1⟩ hah
            subst hga
            clear hcells mi mj hah h1 h2 h3 hi0 hi
            obtain ⟨j1, hj1⟩ : ∃ j1, j + 1 = j1 := ⟨_, rfl⟩
            rw [hj1] at xi hlt hgk HKN HAh ⊢
            have hji : (j1 : Int) - 1 = (j : Int) := by omega
            have hj10 : (0 : Int) < (j1 : Int) := by omega
            have hj1n : 0 < j1 := by omega
            have hj1d : decide (0 < (j1 : Int)) = true := by simp; omega
            have hjw : IntKind.i64.wrap ((j1 : Int) - 1) = (j : Int) := by rw [IntKind.wrap_i64]; omega
            have hjwf : IntKind.i64.wrap (j : Int) = (j : Int) := by rw [IntKind.wrap_i64]; omega
            have hjl : j < LN := by omega
            have HJ1 : Hid (j + 1 = j1) := hj1
            clear hj1
            generalize gt S j = sj at *
            generalize gt S j1 = si at *
            go_upto_region 20 with fail
            go_quiet ((go_at_call 19; exact Calls.quiet_of_same (HAh.out _)))
            have HN2 : Hid (OS w0 (wr.drewN nq) b m dec st K H (.slice (some ⟨g, 0, none⟩) LN c) S) := HOn.out nq
            generalize wr.drewN nq = w5 at *
            go_wp2
            go_roundg (LN - (j1 + 1))
            case rel => exact ⟨j1 + 1, HKN.out, by simp, HN2⟩
            case measure => exact hgk
        · have HIE : Hid (i = LN) := by show _ = _; omega
          have HD0 : Hid (OS w0 wr b m dec st K (dcd (S.drop 0)) (.slice a LN c) S) := by
            obtain ⟨v', h1, h2, h3⟩ := H1.out
            refine ⟨v', h1.cong fun u hu hu' => ?_, h2, h3⟩
            unfold dcd
            rw [List.drop_zero, Bool.eq_iff_iff, decide_eq_true_iff, HO.out.mem]
            exact ⟨fun h => ⟨hu, hu', h⟩, fun h => h.2.2⟩
          clear H1 hi
          go_wp2
          go_loopg [12] LN (fun g x wx => ∃ i : Nat, i + g = LN ∧ x = .int .i64 (i : Int) ∧ Hid (OS w0 wx b m dec st K (dcd (S.drop i)) (.slice a LN c) S))
          case atStart => exact ⟨0, by omega, rfl, HD0⟩
          case round =>
            obtain ⟨i3, hi3, rfl, H3⟩ := hrel
            clear HD0
            by_cases hl3 : i3 < LN
            · have hiS : i3 < S.length := by rw [HLN.out]; exact hl3
              obtain ⟨g, hga, hLS, hLc, hcm, hcells⟩ := H3.out.at (i := i3) hiS
              have HTk : Hid (Calls Try.prog 20 #[.pointer (some ⟨b, 0, none⟩)] wr fun e w' => e = .returned (.tuple #[.int .i64 (gt S i3 : Nat), .bool true]) ∧ OS w0 w' b m dec st K (dcd (S.drop (i3 + 1))) (.slice a LN c) S) := by
                obtain ⟨v', h1, h2, h3⟩ := H3.out
                exact (takeD h1 hiS HO.out).mono fun e w' hx => ⟨hx.1, OS.step h1 h2 h3 hx.2⟩
              have HIn : Hid (∀ W, OS w0 W b m dec st K (dcd (S.drop (i3 + 1))) (.slice a LN c) S → Calls Try.prog 14 #[.pointer (some ⟨b, 0, none⟩), .int .i64 (gt S i3 : Nat)] W fun e w' => e = .returned (.bool false) ∧ w' = W) := fun W ⟨v', h1, h2, h3⟩ => inD h1 hiS HO.out
              have HCe : Hid (∀ W, OS w0 W b m dec st K (dcd (S.drop (i3 + 1))) (.slice a LN c) S → W.cell? ⟨g, i3, none⟩ = some (.int .i64 (gt S i3 : Nat))) := fun W hW => by
                obtain ⟨g', hga', _, _, _, hcells'⟩ := hW.at (i := i3) hiS
                rw [hga] at hga'
                injection hga' with e'
                injection e' with e1
                subst e1
                exact hcells' i3 hiS
              have hgk : LN - (i3 + 1) < gk := by omega
              have HKN : Hid (i3 + 1 + (LN - (i3 + 1)) = LN) := by show _ = _; omega
              clear hcells hLS hiS H3 hi3
              subst hga
              generalize gt S i3 = si at *
              go_wp2_with (first | (go_at_call 20; refine HTk.out.mono ?_; rintro e w5 ⟨rfl, h5⟩; have H5 : Hid (OS w0 w5 b m dec st K (dcd (S.drop (i3 + 1))) (.slice (some ⟨g, 0, none⟩) LN c) S) := h5; clear h5; have x5 := HCe.out w5 H5.out) | (go_at_call 14; refine (HIn.out _ H5.out).mono ?_; rintro e w' ⟨rfl, hw'⟩; have hw'' := hw'.symm; clear hw'; subst hw''))
              go_roundg (LN - (i3 + 1))
              case rel => exact ⟨i3 + 1, HKN.out, by simp, H5⟩
              case measure => exact hgk
            · have HD1 : Hid (OS w0 wr b m dec st K (dcd (S.drop LN)) (.slice a LN c) S) := by
                have e : i3 = LN := by omega
                have := H3.out
                rw [e] at this; exact this
              have HTn : Hid (Calls Try.prog 20 #[.pointer (some ⟨b, 0, none⟩)] wr fun e w' => e = .returned (.tuple #[.int .i64 0, .bool false]) ∧ w' = wr) := by
                obtain ⟨v', h1, h2, h3⟩ := HD1.out
                exact take_no wr h1 fun u _ _ => by unfold dcd; rw [List.drop_of_length_le (by rw [HLN.out]; exact Nat.le_refl _)]; simp
              clear H3 hi3 HIE
              go_wp2_with (go_at_call 20; refine HTn.out.mono ?_; rintro e w' ⟨rfl, hw'⟩; have hw'' := hw'.symm; clear hw'; subst hw'')
              go_loopg [17] LN (fun g x wx => ∃ q : Nat, g = q ∧ q ≤ LN ∧ x = .int .i64 ((q : Int) - 1) ∧ Hid (OS w0 wx b m dec st K (dcd (S.drop q)) (.slice a LN c) S))
              case atStart => exact ⟨LN, rfl, Nat.le_refl _, rfl, HD1⟩
              case round =>
                obtain ⟨q, hgq, hqL, rfl, H4⟩ := hrel
                have HG : Hid (gk = q) := hgq
                clear hgq HTn HD1
                by_cases hq0 : q = 0
                · subst hq0
                  have hm1 : ((0 : Nat) : Int) - 1 = -1 := by omega
                  rw [hm1]
                  have HF : Hid (OS w0 wr b m dec st K (dcd S) (.slice a LN c) S) := by have := H4.out; rw [List.drop_zero] at this; exact this
                  have HOr : Hid (Calls Try.prog 17 #[.pointer (some ⟨b, 0, none⟩)] wr fun e w' => ∃ u, e = .returned u ∧ Rd w' u (S.map fun (x : Nat) => (x : Int)) ∧ Rd w' (.slice a LN c) (S.map fun (x : Nat) => (x : Int)) ∧ Below w.heap.size w w') := by
                    obtain ⟨v', h1, h2, h3⟩ := HF.out
                    refine (order_any wr h1).mono fun e w' ⟨S', u, he, ho', hw', hb'⟩ => ?_
                    have eS : S' = S := ho'.unique ⟨fun x => by
                      unfold dcd
                      rw [decide_eq_true_iff]
                      exact ⟨fun h => ⟨((HO.out.mem x).1 h).1, ((HO.out.mem x).1 h).2.1, h⟩, fun h => h.2.2⟩, HO.out.srt⟩
                    subst eS
                    exact ⟨u, he, hw'.rd (by rw [List.length_map, HLN.out]; omega), (h2.below hb').rd (by rw [List.length_map, HLN.out]; omega), Below.step HB0.out (Below.step h3 hb')⟩
                  have HSm : Hid (∀ W u, Rd W u (S.map fun (x : Nat) => (x : Int)) → Rd W (.slice a LN c) (S.map fun (x : Nat) => (x : Int)) → Calls Try.prog 22 #[u, .slice a LN c] W fun e w' => e = .returned (.bool true) ∧ Below W.heap.size W w') := fun W u h1 h2 => by
                    have := sameInts_any _ _ _ _ W h1 h2
                    rwa [beq_self_eq_true] at this
                  clear H4 HF HO HBd
                  go_wp2_with (first | (go_at_call 17; refine HOr.out.mono ?_; rintro e w6 ⟨u6, rfl, r1, r2, b6⟩; have HR1 : Hid (Rd w6 u6 (S.map fun (x : Nat) => (x : Int))) := r1; have HR2 : Hid (Rd w6 (.slice a LN c) (S.map fun (x : Nat) => (x : Int))) := r2; have HB6 : Hid (Below w.heap.size w w6) := b6; clear r1 r2 b6) | (go_at_call 22; refine (HSm.out _ _ HR1.out HR2.out).mono ?_; rintro e w7 ⟨rfl, h7⟩))
                  go_ret
                  exact ⟨rfl, Below.step HB6.out h7⟩
                · obtain ⟨k, rfl⟩ : ∃ k, q = k + 1 := ⟨q - 1, by omega⟩
                  have hk1 : ((k + 1 : Nat) : Int) - 1 = (k : Int) := by omega
                  rw [hk1]
                  have hkS : k < S.length := by rw [HLN.out]; omega
                  obtain ⟨g, hga, hLS, hLc, hcm, hcells⟩ := H4.out.at (i := k) hkS
                  have xk := hcells k hkS
                  have HPu : Hid (Calls Try.prog 21 #[.pointer (some ⟨b, 0, none⟩), .int .i64 (gt S k : Nat)] wr fun e w' => e = .returned (.int .i64 0) ∧ OS w0 w' b m dec st K (dcd (S.drop k)) (.slice a LN c) S) := by
                    obtain ⟨v', h1, h2, h3⟩ := H4.out
                    exact (putD h1 hkS HO.out).mono fun e w' hx => ⟨hx.1, OS.step h1 h2 h3 hx.2⟩
                  have hgk : k < gk := by have := HG.out; omega
                  have hkL : k < LN := by omega
                  clear hcells hLS hkS H4 hk1 hqL hq0
                  subst hga
                  generalize gt S k = sk at *
                  go_wp2_with (go_at_call 21; refine HPu.out.mono ?_; rintro e w5 ⟨rfl, h5⟩; have H5 : Hid (OS w0 w5 b m dec st K (dcd (S.drop k)) (.slice (some ⟨g, 0, none⟩) LN c) S) := h5; clear h5)
                  go_roundg k
                  case rel => exact ⟨k, rfl, Nat.le_of_lt hkL, by first | rfl | simp, H5⟩
                  case measure => exact hgk
end heatOrders
end Go.Proofs.Ytbfjhgiifmhccaa
